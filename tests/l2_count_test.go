package tests

import (
	"fmt"
	"math"
	"slices"
	"testing"

	"loop.example/g01115/impl"
)

// Lists that are no circle lists: n numbers, not all in 0..n, or too many.
var notCircleLists = [][]int{
	{-1}, {2}, {0, 3}, {3, 0}, {0, 0, 4}, {9, 0, 0, 0, 0, 0, 0, 0}, {0, 0, 0, 0, 0, 0, 0, 0, 0}, {8, 8, 8, 8, 8, 8, 8, 8, 8},
	make([]int, 11), make([]int, 12), make([]int, 100), {math.MaxInt}, {math.MinInt}, {0, math.MinInt},
}

var notCarNumbers = []int{-1, 9, 10, 13, 100, math.MaxInt, math.MinInt}

// circledByHand tries the places behind the favourite one after the other.
func circledByHand(list []int, places int) []int {
	var stands []int
	for _, favourite := range list {
		place := favourite
		for slices.Contains(stands, place) {
			place++
			if place == places {
				place = 0
			}
		}
		stands = append(stands, place)
	}
	return stands
}

func sumOf(list []int) int {
	sum := 0
	for _, x := range list {
		sum += x
	}
	return sum
}

func luckyByHand(list []int) int {
	lucky := 0
	for car, place := range drivenByHand(list, len(list)) {
		if place == list[car] {
			lucky++
		}
	}
	return lucky
}

func totalByHand(list []int) int {
	return sumOf(drivenByHand(list, len(list))) - sumOf(list)
}

func sortedParking(n int) [][]int {
	var sorted [][]int
	for _, list := range parkingFunctions(n) {
		if slices.IsSorted(list) {
			sorted = append(sorted, list)
		}
	}
	return sorted
}

func expectLists(t *testing.T, what string, got [][]int, ok bool, want [][]int) {
	t.Helper()
	if !ok || !slices.EqualFunc(got, want, slices.Equal) {
		t.Errorf("%s: got %d lists, %v, want %d: %v, not %v", what, len(got), ok, len(want), got, want)
	}
}

func TestCountParking(t *testing.T) {
	for n, want := range []int{1, 1, 3, 16, 125, 1296, 16807, 262144, 4782969} {
		got, ok := impl.CountParking(n)
		expectNumber(t, fmt.Sprint("parking functions of ", n), got, ok, want)
	}
	for n := range 7 {
		got, ok := impl.CountParking(n)
		expectNumber(t, fmt.Sprint("listed parking functions of ", n), got, ok, len(parkingFunctions(n)))
	}
	for _, n := range notCarNumbers {
		got, ok := impl.CountParking(n)
		expectNoNumber(t, fmt.Sprint("parking functions of ", n), got, ok)
	}
}

func TestCountForStreetAgreesWithDrives(t *testing.T) {
	type street struct{ cars, places int }
	parked := map[street]int{}
	eachStreet(func(list []int, places int) {
		if !slices.Contains(drivenByHand(list, places), -1) {
			parked[street{len(list), places}]++
		}
	})
	for places := 1; places <= 5; places++ {
		for cars := range 6 {
			got, ok := impl.CountForStreet(cars, places)
			expectNumber(t, fmt.Sprint(cars, " cars on ", places), got, ok, parked[street{cars, places}])
		}
	}
}

func TestCountForStreetLimits(t *testing.T) {
	for _, c := range []struct{ cars, places, want int }{
		{0, 1, 1}, {0, 12, 1}, {1, 1, 1}, {1, 12, 12}, {2, 1, 0}, {3, 1, 0}, {8, 1, 0}, {8, 7, 0}, {8, 8, 4782969}, {8, 12, 313742585}, {7, 12, 28960854},
	} {
		got, ok := impl.CountForStreet(c.cars, c.places)
		expectNumber(t, fmt.Sprint(c.cars, " cars on ", c.places), got, ok, c.want)
	}
	for n := 1; n <= impl.MaxCars; n++ {
		want, _ := impl.CountParking(n)
		got, ok := impl.CountForStreet(n, n)
		expectNumber(t, fmt.Sprint(n, " cars on as many places"), got, ok, want)
	}
	for _, cars := range notCarNumbers {
		got, ok := impl.CountForStreet(cars, 12)
		expectNoNumber(t, fmt.Sprint(cars, " cars on 12 places"), got, ok)
	}
	for _, places := range []int{0, -1, 13, 14, 100, math.MaxInt, math.MinInt} {
		for _, cars := range []int{0, 1, 8} {
			got, ok := impl.CountForStreet(cars, places)
			expectNoNumber(t, fmt.Sprint(cars, " cars on ", places), got, ok)
		}
	}
}

func TestAllParking(t *testing.T) {
	for n := range 6 {
		got, ok := impl.AllParking(n)
		expectLists(t, fmt.Sprint("all parking functions of ", n), got, ok, parkingFunctions(n))
	}
	for _, n := range []int{-1, 6, 7, 8, 9, math.MaxInt, math.MinInt} {
		got, ok := impl.AllParking(n)
		expectNoLists(t, fmt.Sprint("all parking functions of ", n), got, ok)
	}
}

// expectRank holds for the parking function with the rank, if next is the one behind it, or nil.
func expectRank(t *testing.T, list []int, want int, next []int) {
	t.Helper()
	rank, ok := impl.RankParking(list)
	expectNumber(t, fmt.Sprint("rank of ", list), rank, ok, want)
	got, ok := impl.ParkingAt(len(list), want)
	expectList(t, fmt.Sprint("parking function of ", len(list), " at ", want), got, ok, list)
	got, ok = impl.NextParking(list)
	if next == nil {
		expectNoList(t, fmt.Sprint("next of ", list), got, ok)
	} else {
		expectList(t, fmt.Sprint("next of ", list), got, ok, next)
	}
}

func TestRanksAgreeWithLists(t *testing.T) {
	for n := range 6 {
		all := parkingFunctions(n)
		for rank, list := range all {
			if rank+1 < len(all) {
				expectRank(t, list, rank, all[rank+1])
			} else {
				expectRank(t, list, rank, nil)
			}
		}
	}
}

func TestRanksOfManyCars(t *testing.T) {
	expectRank(t, []int{7, 6, 5, 4, 3, 2, 1, 0}, 4782968, nil)
	expectRank(t, []int{7, 6, 5, 4, 3, 2, 0, 1}, 4782967, []int{7, 6, 5, 4, 3, 2, 1, 0})
	expectRank(t, make([]int, 8), 0, []int{0, 0, 0, 0, 0, 0, 0, 1})
	expectRank(t, []int{0, 0, 0, 0, 0, 0, 0, 7}, 7, []int{0, 0, 0, 0, 0, 0, 1, 0})
	expectRank(t, []int{0, 7, 6, 5, 4, 3, 2, 1}, 1062881, []int{1, 0, 0, 0, 0, 0, 0, 0})
	expectRank(t, []int{1, 0, 0, 0, 0, 0, 0, 0}, 1062882, []int{1, 0, 0, 0, 0, 0, 0, 1})
	expectRank(t, []int{6, 5, 4, 3, 2, 1, 0}, 262143, nil)
	for _, n := range []int{6, 7, 8} {
		count, _ := impl.CountParking(n)
		for rank := 0; rank+1 < count; rank += count/50 + 1 {
			list, _ := impl.ParkingAt(n, rank)
			next, _ := impl.ParkingAt(n, rank+1)
			if !isParkingByHand(list) || !isParkingByHand(next) || slices.Compare(list, next) >= 0 {
				t.Errorf("%d cars: %v and %v are at %d and the next rank", n, list, next, rank)
			}
			expectRank(t, list, rank, next)
		}
	}
}

func TestRankLimits(t *testing.T) {
	expectRank(t, nil, 0, nil)
	expectRank(t, []int{0}, 0, nil)
	for n, count := range []int{1, 1, 3, 16, 125, 1296, 16807, 262144, 4782969} {
		for _, rank := range []int{-1, count, count + 1, math.MaxInt, math.MinInt} {
			got, ok := impl.ParkingAt(n, rank)
			expectNoList(t, fmt.Sprint("parking function of ", n, " at ", rank), got, ok)
		}
	}
	for _, n := range notCarNumbers {
		for _, rank := range []int{0, 1, -1, math.MaxInt} {
			got, ok := impl.ParkingAt(n, rank)
			expectNoList(t, fmt.Sprint("parking function of ", n, " at ", rank), got, ok)
		}
	}
	for _, list := range notParking {
		rank, ok := impl.RankParking(list)
		expectNoNumber(t, fmt.Sprint("rank of ", list), rank, ok)
		next, ok := impl.NextParking(list)
		expectNoList(t, fmt.Sprint("next of ", list), next, ok)
	}
}

func TestCountByFirst(t *testing.T) {
	for n := 1; n <= 6; n++ {
		want := make([]int, n)
		for _, list := range parkingFunctions(n) {
			want[list[0]]++
		}
		got, ok := impl.CountByFirst(n)
		expectList(t, fmt.Sprint("first favourites of ", n), got, ok, want)
	}
	got, ok := impl.CountByFirst(7)
	expectList(t, "first favourites of 7", got, ok, []int{65536, 48729, 40953, 35328, 30208, 24583, 16807})
	got, ok = impl.CountByFirst(8)
	expectList(t, "first favourites of 8", got, ok, []int{1062882, 800738, 683089, 601441, 531441, 461441, 379793, 262144})
	for _, n := range append([]int{0}, notCarNumbers...) {
		got, ok := impl.CountByFirst(n)
		expectNoList(t, fmt.Sprint("first favourites of ", n), got, ok)
	}
}

func TestCountByDistance(t *testing.T) {
	for n := range 6 {
		want := make([]int, n*(n-1)/2+1)
		for _, list := range parkingFunctions(n) {
			want[totalByHand(list)]++
		}
		got, ok := impl.CountByDistance(n)
		expectList(t, fmt.Sprint("distances of ", n), got, ok, want)
	}
	got, ok := impl.CountByDistance(0)
	expectList(t, "distances of no cars", got, ok, []int{1})
	for _, n := range []int{-1, 6, 7, 8, 9, math.MaxInt, math.MinInt} {
		got, ok := impl.CountByDistance(n)
		expectNoList(t, fmt.Sprint("distances of ", n), got, ok)
	}
}

func TestCountByLucky(t *testing.T) {
	for n := 1; n <= 6; n++ {
		want := make([]int, n+1)
		for _, list := range parkingFunctions(n) {
			want[luckyByHand(list)]++
		}
		got, ok := impl.CountByLucky(n)
		expectList(t, fmt.Sprint("lucky cars of ", n), got, ok, want)
	}
	got, ok := impl.CountByLucky(7)
	expectList(t, "lucky cars of 7", got, ok, []int{0, 720, 9792, 44176, 87296, 81136, 33984, 5040})
	got, ok = impl.CountByLucky(8)
	expectList(t, "lucky cars of 8", got, ok, []int{0, 5040, 82332, 463860, 1203921, 1582236, 1064124, 341136, 40320})
	for _, n := range append([]int{0}, notCarNumbers...) {
		got, ok := impl.CountByLucky(n)
		expectNoList(t, fmt.Sprint("lucky cars of ", n), got, ok)
	}
}

func TestSpreadCountsAddUp(t *testing.T) {
	spreads := map[string]func(int) ([]int, bool){
		"first": impl.CountByFirst, "distance": impl.CountByDistance, "lucky": impl.CountByLucky,
	}
	for name, spread := range spreads {
		for n := range impl.MaxCars + 1 {
			counts, ok := spread(n)
			if !ok {
				continue
			}
			want, _ := impl.CountParking(n)
			expectNumber(t, fmt.Sprint("all counts by ", name, " of ", n), sumOf(counts), ok, want)
		}
	}
}

func TestDriveCircle(t *testing.T) {
	eachStreet(func(list []int, places int) {
		what := fmt.Sprint(list, " on a circle of ", places)
		got, ok := impl.DriveCircle(list, places)
		if len(list) > places {
			expectNoList(t, what, got, ok)
			return
		}
		expectList(t, what, got, ok, circledByHand(list, places))
	})
	for _, c := range []struct {
		list   []int
		places int
		want   []int
	}{
		{nil, 1, nil},
		{nil, 12, nil},
		{[]int{0}, 1, []int{0}},
		{[]int{2, 2}, 3, []int{2, 0}},
		{[]int{11, 11, 10, 11}, 12, []int{11, 0, 10, 1}},
		{[]int{7, 7, 7, 7, 7, 7, 7, 7}, 8, []int{7, 0, 1, 2, 3, 4, 5, 6}},
	} {
		got, ok := impl.DriveCircle(c.list, c.places)
		expectList(t, fmt.Sprint(c.list, " on a circle of ", c.places), got, ok, c.want)
	}
	got, ok := impl.DriveCircle([]int{0, 0}, 1)
	expectNoList(t, "two cars on a circle of one place", got, ok)
	got, ok = impl.DriveCircle(make([]int, 8), 7)
	expectNoList(t, "a car too many on a circle", got, ok)
	for _, c := range notFavourites {
		got, ok := impl.DriveCircle(c.list, c.places)
		expectNoList(t, fmt.Sprint(c.list, " on a circle of ", c.places), got, ok)
	}
}

// eachCircleList leaves out the lists of many cars, but for a few.
func eachCircleList(visit func(list []int)) {
	for n := range 5 {
		eachList(n, n+1, visit)
	}
	for x := range 9 {
		for y := range 9 {
			visit([]int{x, y, y, x, x, x, x, y})
			visit([]int{x, y, 8, 0, 4, y, 8, x})
		}
	}
}

func TestFreeOnCircle(t *testing.T) {
	eachCircleList(func(list []int) {
		stands := circledByHand(list, len(list)+1)
		want := 0
		for slices.Contains(stands, want) {
			want++
		}
		free, ok := impl.FreeOnCircle(list)
		expectNumber(t, fmt.Sprint("free place for ", list), free, ok, want)
	})
	free, ok := impl.FreeOnCircle(nil)
	expectNumber(t, "free place of a circle of one place", free, ok, 0)
	for _, list := range notCircleLists {
		free, ok := impl.FreeOnCircle(list)
		expectNoNumber(t, fmt.Sprint("free place for ", list), free, ok)
	}
}

func TestTurnFavourites(t *testing.T) {
	for _, c := range []struct {
		list       []int
		places, by int
		want       []int
	}{
		{nil, 1, 1000, nil},
		{[]int{0, 0}, 1, 5, []int{0, 0}},
		{[]int{0, 0}, 1, -5, []int{0, 0}},
		{[]int{2, 2}, 3, 1, []int{0, 0}},
		{[]int{2, 0, 1}, 3, 0, []int{2, 0, 1}},
		{[]int{2, 0, 1}, 3, 3, []int{2, 0, 1}},
		{[]int{2, 0, 1}, 3, -3, []int{2, 0, 1}},
		{[]int{2, 0, 1}, 3, -1, []int{1, 2, 0}},
		{[]int{0, 6, 3}, 7, 1000, []int{6, 5, 2}},
		{[]int{0, 6, 3}, 7, -1000, []int{1, 0, 4}},
		{[]int{0, 11}, 12, 999, []int{3, 2}},
		{[]int{0, 11}, 12, -999, []int{9, 8}},
		{[]int{0, 0, 0, 0, 0, 0, 0, 11}, 12, 1, []int{1, 1, 1, 1, 1, 1, 1, 0}},
	} {
		got, ok := impl.TurnFavourites(c.list, c.places, c.by)
		expectList(t, fmt.Sprint(c.list, " of ", c.places, " turned by ", c.by), got, ok, c.want)
	}
	for _, by := range []int{1001, -1001, math.MaxInt, math.MinInt} {
		got, ok := impl.TurnFavourites([]int{0, 1}, 3, by)
		expectNoList(t, fmt.Sprint("turned by ", by), got, ok)
		got, ok = impl.TurnFavourites(nil, 1, by)
		expectNoList(t, fmt.Sprint("no car turned by ", by), got, ok)
	}
	for _, c := range notFavourites {
		got, ok := impl.TurnFavourites(c.list, c.places, 1)
		expectNoList(t, fmt.Sprint(c.list, " of ", c.places, " turned"), got, ok)
	}
}

func TestTurningTurnsFreePlace(t *testing.T) {
	eachCircleList(func(list []int) {
		places := len(list) + 1
		free, _ := impl.FreeOnCircle(list)
		for by := -places; by <= places; by++ {
			want := make([]int, len(list))
			for car, favourite := range list {
				want[car] = (favourite + by + places) % places
			}
			turned, ok := impl.TurnFavourites(list, places, by)
			expectList(t, fmt.Sprint(list, " turned by ", by), turned, ok, want)
			got, ok := impl.FreeOnCircle(turned)
			expectNumber(t, fmt.Sprint("free place for ", list, " turned by ", by), got, ok, (free+by+places)%places)
		}
	})
}

func TestEachClassHasOneParkingFunction(t *testing.T) {
	eachCircleList(func(list []int) {
		n := len(list)
		var want []int
		wantBy, found := 0, 0
		for by := range n + 1 {
			turned, _ := impl.TurnFavourites(list, n+1, by)
			if isParkingByHand(turned) {
				want, wantBy = turned, by
				found++
			}
		}
		if found != 1 {
			t.Errorf("the class of %v has %d parking functions", list, found)
		}
		got, by, ok := impl.ParkingOfClass(list)
		expectList(t, fmt.Sprint("parking function of the class of ", list), got, ok, want)
		expectNumber(t, fmt.Sprint("turn of ", list), by, ok, wantBy)
		free, ok := impl.FreeOnCircle(got)
		expectNumber(t, fmt.Sprint("free place for ", got), free, ok, n)
	})
	for _, list := range notCircleLists {
		got, by, ok := impl.ParkingOfClass(list)
		expectNoList(t, fmt.Sprint("parking function of the class of ", list), got, ok)
		expectNoNumber(t, fmt.Sprint("turn of ", list), by, ok)
	}
}

func TestSorted(t *testing.T) {
	for n, want := range []int{1, 1, 2, 5, 14, 42, 132, 429, 1430} {
		got, ok := impl.CountSorted(n)
		expectNumber(t, fmt.Sprint("sorted parking functions of ", n), got, ok, want)
	}
	for n := range 7 {
		want := sortedParking(n)
		all, ok := impl.AllSorted(n)
		expectLists(t, fmt.Sprint("sorted parking functions of ", n), all, ok, want)
		count, ok := impl.CountSorted(n)
		expectNumber(t, fmt.Sprint("listed sorted parking functions of ", n), count, ok, len(want))
	}
	for _, n := range notCarNumbers {
		count, ok := impl.CountSorted(n)
		expectNoNumber(t, fmt.Sprint("sorted parking functions of ", n), count, ok)
	}
	for _, n := range []int{-1, 7, 8, 9, math.MaxInt, math.MinInt} {
		all, ok := impl.AllSorted(n)
		expectNoLists(t, fmt.Sprint("sorted parking functions of ", n), all, ok)
	}
}

func TestCountOrders(t *testing.T) {
	for n := range 6 {
		orders := map[string]int{}
		all := parkingFunctions(n)
		for _, list := range all {
			orders[fmt.Sprint(sortedCopy(list))]++
		}
		for _, list := range all {
			got, ok := impl.CountOrders(list)
			expectNumber(t, fmt.Sprint("orders of ", list), got, ok, orders[fmt.Sprint(sortedCopy(list))])
		}
	}
	for _, c := range []struct {
		list []int
		want int
	}{
		{nil, 1},
		{[]int{0}, 1},
		{make([]int, 8), 1},
		{[]int{7, 6, 5, 4, 3, 2, 1, 0}, 40320},
		{[]int{1, 0, 1, 0, 1, 0, 1, 0}, 70},
		{[]int{0, 1, 2, 3, 0, 1, 2, 3}, 2520},
	} {
		got, ok := impl.CountOrders(c.list)
		expectNumber(t, fmt.Sprint("orders of ", c.list), got, ok, c.want)
	}
	for _, list := range notParking {
		got, ok := impl.CountOrders(list)
		expectNoNumber(t, fmt.Sprint("orders of ", list), got, ok)
	}
}

// TestOrdersOfSortedAddUp holds the counts of all, of sorted ones and of orders against each other.
func TestOrdersOfSortedAddUp(t *testing.T) {
	for n := range 7 {
		sorted, ok := impl.AllSorted(n)
		sum := 0
		for _, list := range sorted {
			orders, _ := impl.CountOrders(list)
			sum += orders
		}
		want, _ := impl.CountParking(n)
		expectNumber(t, fmt.Sprint("orders of sorted parking functions of ", n), sum, ok, want)
	}
}
