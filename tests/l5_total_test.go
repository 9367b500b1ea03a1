package tests

import (
	"fmt"
	"math"
	"slices"
	"testing"

	"loop.example/g01115/impl"
)

// callsOfLong are those with favourites and lengths.
func callsOfLong() []call {
	lists := func(name string, f func([]int, []int) ([]int, bool)) call {
		return call{name, func(l ...[]int) result {
			list, ok := f(l[0], l[1])
			return result{lists: [][]int{list}, ok: ok}
		}}
	}
	return []call{
		lists("DriveLong", impl.DriveLong),
		{"IsLongParking", func(l ...[]int) result {
			answer, ok := impl.IsLongParking(l[0], l[1])
			return result{answer: answer, ok: ok}
		}},
		{"BlockedCar", func(l ...[]int) result {
			number, ok := impl.BlockedCar(l[0], l[1])
			return result{number: number, ok: ok}
		}},
		lists("StretchList", impl.StretchList),
	}
}

func callsOfBack(places int, back int) []call {
	with := fmt.Sprint(" on ", places, " back ", back)
	return []call{
		listCall("DriveBack"+with, func(l []int) ([]int, bool) { return impl.DriveBack(l, places, back) }),
		answerCall("DoParkBack"+with, func(l []int) (bool, bool) { return impl.DoParkBack(l, places, back) }),
	}
}

func callsOfDefect(places int) []call {
	on := fmt.Sprint(" on ", places)
	return []call{
		numberCall("LeastBack"+on, func(l []int) (int, bool) { return impl.LeastBack(l, places) }),
		listCall("DriveSome"+on, func(l []int) ([]int, bool) { return impl.DriveSome(l, places) }),
		numberCall("DefectOf"+on, func(l []int) (int, bool) { return impl.DefectOf(l, places) }),
	}
}

func strangeLengths() [][]int {
	lengths := append(strangeLists(), notLengths...)
	eachLengths(3, 8, func(list []int) { lengths = append(lengths, list) })
	return append(lengths, []int{12}, []int{4, 4, 4}, slices.Repeat([]int{1}, 8), []int{1, 2, 1, 2, 1, 2, 1, 2})
}

func TestAnyLongCars(t *testing.T) {
	lists := append(strangeLists(), notParking...)
	for n := 1; n <= 3; n++ {
		eachList(n, 3, func(list []int) { lists = append(lists, list) })
	}
	for _, c := range callsOfLong() {
		for _, list := range lists {
			for _, lengths := range strangeLengths() {
				expectDecent(t, c, list, lengths)
			}
		}
	}
	for _, c := range []call{numberCall("CountLong", impl.CountLong), numberCall("PlacesNeeded", impl.PlacesNeeded)} {
		for _, list := range append(lists, strangeLengths()...) {
			expectDecent(t, c, list)
		}
	}
}

func TestAnyCarsThatLookBack(t *testing.T) {
	lists := strangeLists()
	eachList(3, 3, func(list []int) { lists = append(lists, list) })
	for _, places := range strangeNumbers() {
		for _, back := range strangeNumbers() {
			for _, c := range callsOfBack(places, back) {
				for _, list := range lists {
					expectDecent(t, c, list)
				}
			}
		}
		for _, c := range callsOfDefect(places) {
			for _, list := range lists {
				expectDecent(t, c, list)
			}
		}
	}
}

func TestAnyTriedNumbers(t *testing.T) {
	numbers := append(strangeNumbers(), 4, 5, 6, 7)
	for _, n := range numbers {
		of := fmt.Sprint(" of ", n)
		expectDecent(t, listResult("CountByDefect"+of, func() ([]int, bool) { return impl.CountByDefect(n) }))
		for _, back := range numbers {
			expectDecent(t, numberResult(fmt.Sprint("CountBack", of, " back ", back), func() (int, bool) { return impl.CountBack(n, back) }))
		}
	}
}

// One list may be the favourites and the lengths at once.
func TestOneListForCarsAndLengths(t *testing.T) {
	list := guarded([]int{1, 1})
	car, ok := impl.BlockedCar(list, list)
	expectNumber(t, "blocked car of one list for both", car, ok, 1)
	is, ok := impl.IsLongParking(list, list)
	expectAnswer(t, "long parking of one list for both", is, ok, false)
	least, ok := impl.LeastBack(list, 2)
	expectNumber(t, "least back", least, ok, 1)
	if !isIntact(list, []int{1, 1}) {
		t.Errorf("the list for both was changed: %v", list)
	}
}

// TestLongGreatNumbers has a length that would lead beyond the greatest int if it were added to a place.
func TestLongGreatNumbers(t *testing.T) {
	for _, lengths := range [][]int{{1, math.MaxInt}, {math.MaxInt, 1}, {math.MaxInt - 1, 2}} {
		expectNoLong(t, []int{0, 0}, lengths)
		expectNoLong(t, []int{1, 1}, lengths)
	}
}
