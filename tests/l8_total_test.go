package tests

import (
	"fmt"
	"testing"

	"loop.example/g01115/impl"
)

func callsOfSlopeLists(across int) []call {
	of := fmt.Sprint(" for ", across)
	lists := func(name string, f func([]int, int) ([]int, bool)) call {
		return listCall(name+of, func(l []int) ([]int, bool) { return f(l, across) })
	}
	return []call{
		answerCall("IsSlopeParking"+of, func(l []int) (bool, bool) { return impl.IsSlopeParking(l, across) }),
		numberCall("RankSlope"+of, func(l []int) (int, bool) { return impl.RankSlope(l, across) }),
		{"TurnToSlope" + of, func(l ...[]int) result {
			turned, by, ok := impl.TurnToSlope(l[0], across)
			return result{lists: [][]int{turned}, number: by, ok: ok}
		}},
		numberCall("SlopeArea"+of, func(l []int) (int, bool) { return impl.SlopeArea(l, across) }),
		lists("TurnSlopeWalk", impl.TurnSlopeWalk),
		lists("LevelsOfWalk", impl.LevelsOfWalk),
		lists("BesideSlope", impl.BesideSlope),
	}
}

func callsOfSlope(cars int, across int) []call {
	of := fmt.Sprint(" of ", cars, " and ", across)
	return []call{
		{"IsSlope" + of, func(...[]int) result { return result{ok: impl.IsSlope(cars, across)} }},
		listResult("BoundsOf"+of, func() ([]int, bool) { return impl.BoundsOf(cars, across) }),
		numberResult("CountSlope"+of, func() (int, bool) { return impl.CountSlope(cars, across) }),
		listsResult("AllSlope"+of, func() ([][]int, bool) { return impl.AllSlope(cars, across) }),
		numberResult("CountSlopeWalks"+of, func() (int, bool) { return impl.CountSlopeWalks(cars, across) }),
		listsResult("AllSlopeWalks"+of, func() ([][]int, bool) { return impl.AllSlopeWalks(cars, across) }),
		numberResult("MostArea"+of, func() (int, bool) { return impl.MostArea(cars, across) }),
	}
}

func slopeListsAndOthers() [][]int {
	lists := append(strangeLists(), notParking...)
	for _, lists8 := range [][]slopeList{listsOfNoSlope, listsOutside, listsAbove, fallingLists} {
		for _, c := range lists8 {
			lists = append(lists, c.list)
		}
	}
	seen := 0
	eachSlopeList(func(list []int, across int) {
		seen++
		if seen%401 == 0 {
			lists = append(lists, list)
		}
	})
	eachSlope(func(cars int, across int) {
		lists = append(lists, slopeBoundsByHand(cars, across))
	})
	return lists
}

func TestAnySlopeLists(t *testing.T) {
	lists := slopeListsAndOthers()
	usual := listCall("UsualOf", impl.UsualOf)
	for _, list := range lists {
		expectDecent(t, usual, list)
	}
	for _, across := range append(strangeNumbers(), 4, 5, 6, 7, 10, 14) {
		for _, c := range callsOfSlopeLists(across) {
			for _, list := range lists {
				expectDecent(t, c, list)
			}
		}
	}
}

func TestAnySlopeNumbers(t *testing.T) {
	numbers := append(strangeNumbers(), 4, 5, 6, 7, 10, 14)
	for _, cars := range numbers {
		for _, across := range numbers {
			for _, c := range callsOfSlope(cars, across) {
				expectDecent(t, c)
			}
			for _, rank := range append(strangeNumbers(), 371292, 371293) {
				expectDecent(t, listResult(fmt.Sprint("SlopeAt of ", cars, " and ", across, " at ", rank), func() ([]int, bool) {
					return impl.SlopeAt(cars, across, rank)
				}))
			}
		}
	}
}
