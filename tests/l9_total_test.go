package tests

import (
	"fmt"
	"slices"
	"testing"

	"loop.example/g01115/impl"
)

func listsCall(name string, f func([]int) ([][]int, bool)) call {
	return call{name, func(l ...[]int) result {
		all, ok := f(l[0])
		return result{lists: all, ok: ok}
	}}
}

func callsOfParts() []call {
	return []call{
		answerCall("IsPrime", impl.IsPrime),
		listsCall("PrimeParts", impl.PrimeParts),
		listsCall("UnitBlocks", impl.UnitBlocks),
	}
}

func callsOfValet(places int) []call {
	on := fmt.Sprint(" on ", places)
	lists := func(name string, f func([]int, int) ([]int, bool)) call {
		return listCall(name+on, func(l []int) ([]int, bool) { return f(l, places) })
	}
	numbers := func(name string, f func([]int, int) (int, bool)) call {
		return numberCall(name+on, func(l []int) (int, bool) { return f(l, places) })
	}
	return []call{
		// A number of places may be a greatest distance as well.
		answerCall("IsUnit"+on, func(l []int) (bool, bool) { return impl.IsUnit(l, places) }),
		numbers("LeastGreatest", impl.LeastGreatest),
		numbers("GreatestGreatest", impl.GreatestGreatest),
		numbers("MostLucky", impl.MostLucky),
		lists("FairOrder", impl.FairOrder),
		lists("WaitsOf", impl.WaitsOf),
	}
}

func callsOfPrimeNumber(n int) []call {
	of := fmt.Sprint(" of ", n)
	return []call{
		numberResult("CountPrime"+of, func() (int, bool) { return impl.CountPrime(n) }),
		listsResult("AllPrime"+of, func() ([][]int, bool) { return impl.AllPrime(n) }),
	}
}

func reorderCall() call {
	return call{"ReorderCars", func(l ...[]int) result {
		list, ok := impl.ReorderCars(l[0], l[1])
		return result{lists: [][]int{list}, ok: ok}
	}}
}

// fromBlocksCall has a list behind the blocks, so that it shows if a list is put in another's place or behind them.
func fromBlocksCall() call {
	return call{"FromUnitBlocks", func(l ...[]int) result {
		spare := []int{4242}
		whole := append(slices.Clone(l), spare)
		list, ok := impl.FromUnitBlocks(whole[:len(l)])
		if !slices.EqualFunc(whole, append(slices.Clone(l), spare), slices.Equal) {
			return result{text: "the blocks were changed"}
		}
		return result{lists: [][]int{list}, ok: ok}
	}}
}

func TestAnyPrimeAndUnitLists(t *testing.T) {
	lists := append(strangeLists(), notParking...)
	eachStreet(func(list []int, places int) {
		if places == len(list) {
			lists = append(lists, list)
		}
	})
	lists = append(lists, greatParking()[:60]...)
	for _, list := range lists {
		for _, c := range callsOfParts() {
			expectDecent(t, c, list)
		}
	}
	for _, places := range append(strangeNumbers(), 4, 5, 6, 7) {
		for _, c := range callsOfValet(places) {
			for i, list := range lists {
				if i < 60 || i%7 == 0 {
					expectDecent(t, c, list)
				}
			}
		}
	}
}

func TestAnyPrimeAndUnitNumbers(t *testing.T) {
	for _, n := range append(strangeNumbers(), 4, 5, 6, 7) {
		for _, c := range callsOfPrimeNumber(n) {
			expectDecent(t, c)
		}
		for _, most := range append(strangeNumbers(), 4, 5, 6, 7) {
			expectDecent(t, numberResult(fmt.Sprint("CountUnit of ", n, " for ", most), func() (int, bool) { return impl.CountUnit(n, most) }))
		}
	}
}

func TestAnyOrdersAndBlocks(t *testing.T) {
	lists := append(strangeLists(), notOrders...)
	for _, list := range lists {
		for _, order := range lists {
			expectDecent(t, reorderCall(), list, order)
			expectDecent(t, fromBlocksCall(), list, order)
		}
		expectDecent(t, fromBlocksCall(), list)
	}
	eachList(3, 3, func(list []int) {
		eachList(3, 3, func(order []int) {
			expectDecent(t, reorderCall(), list, order)
		})
	})
	for cars := range 6 {
		eachBlocks(cars, func(blocks [][]int) {
			expectDecent(t, fromBlocksCall(), blocks...)
		})
	}
	for _, blocks := range notBlocks {
		expectDecent(t, fromBlocksCall(), blocks...)
	}
}
