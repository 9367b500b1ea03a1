package tests

import (
	"fmt"
	"testing"

	"loop.example/g01115/impl"
)

// numberResult, as the two functions behind it, makes a call without lists.
func numberResult(name string, f func() (int, bool)) call {
	return call{name, func(...[]int) result {
		number, ok := f()
		return result{number: number, ok: ok}
	}}
}

func listResult(name string, f func() ([]int, bool)) call {
	return call{name, func(...[]int) result {
		list, ok := f()
		return result{lists: [][]int{list}, ok: ok}
	}}
}

func listsResult(name string, f func() ([][]int, bool)) call {
	return call{name, func(...[]int) result {
		all, ok := f()
		return result{lists: all, ok: ok}
	}}
}

func callsOfOneNumber(n int) []call {
	of := fmt.Sprint(" of ", n)
	return []call{
		numberResult("CountParking"+of, func() (int, bool) { return impl.CountParking(n) }),
		numberResult("CountSorted"+of, func() (int, bool) { return impl.CountSorted(n) }),
		listResult("CountByFirst"+of, func() ([]int, bool) { return impl.CountByFirst(n) }),
		listResult("CountByDistance"+of, func() ([]int, bool) { return impl.CountByDistance(n) }),
		listResult("CountByLucky"+of, func() ([]int, bool) { return impl.CountByLucky(n) }),
		listsResult("AllParking"+of, func() ([][]int, bool) { return impl.AllParking(n) }),
		listsResult("AllSorted"+of, func() ([][]int, bool) { return impl.AllSorted(n) }),
	}
}

func callsOfTwoNumbers(a int, b int) []call {
	of := fmt.Sprint(" of ", a, " and ", b)
	return []call{
		numberResult("CountForStreet"+of, func() (int, bool) { return impl.CountForStreet(a, b) }),
		listResult("ParkingAt"+of, func() ([]int, bool) { return impl.ParkingAt(a, b) }),
	}
}

func callsOfRanksAndClasses() []call {
	return []call{
		numberCall("RankParking", impl.RankParking),
		listCall("NextParking", impl.NextParking),
		numberCall("FreeOnCircle", impl.FreeOnCircle),
		{"ParkingOfClass", func(l ...[]int) result {
			list, by, ok := impl.ParkingOfClass(l[0])
			return result{lists: [][]int{list}, number: by, ok: ok}
		}},
		numberCall("CountOrders", impl.CountOrders),
	}
}

func callsOnCircle(places int) []call {
	on := fmt.Sprint(" on ", places)
	calls := []call{listCall("DriveCircle"+on, func(l []int) ([]int, bool) { return impl.DriveCircle(l, places) })}
	for _, by := range append(strangeNumbers(), -1001, -1000, 1000, 1001) {
		calls = append(calls, listCall(fmt.Sprint("TurnFavourites", on, " by ", by), func(l []int) ([]int, bool) {
			return impl.TurnFavourites(l, places, by)
		}))
	}
	return calls
}

func TestAnyNumbers(t *testing.T) {
	for _, a := range append(strangeNumbers(), 4, 5, 6, 7) {
		for _, c := range callsOfOneNumber(a) {
			expectDecent(t, c)
		}
		for _, b := range append(strangeNumbers(), 4782968, 4782969) {
			for _, c := range callsOfTwoNumbers(a, b) {
				expectDecent(t, c)
			}
		}
	}
}

func TestAnyListsOfChapter2(t *testing.T) {
	lists := strangeLists()
	eachCircleList(func(list []int) { lists = append(lists, list) })
	for _, list := range lists {
		for _, c := range callsOfRanksAndClasses() {
			expectDecent(t, c, list)
		}
	}
	for _, places := range strangeNumbers() {
		for _, c := range callsOnCircle(places) {
			for _, list := range strangeLists() {
				expectDecent(t, c, list)
			}
		}
	}
}
