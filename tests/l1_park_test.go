package tests

import (
	"fmt"
	"math"
	"slices"
	"strings"
	"testing"

	"loop.example/g01115/impl"
)

// drivenByHand is the drive as the document tells it, with -1 for the cars that fail.
func drivenByHand(list []int, places int) []int {
	taken := make([]bool, places)
	stands := make([]int, len(list))
	for car, favourite := range list {
		stands[car] = -1
		for place := favourite; place < places; place++ {
			if !taken[place] {
				taken[place] = true
				stands[car] = place
				break
			}
		}
	}
	return stands
}

func atLeast(list []int, place int) int {
	count := 0
	for _, x := range list {
		if x >= place {
			count++
		}
	}
	return count
}

func isParkingByHand(list []int) bool {
	for place := range 100 {
		if atLeast(list, place) > max(len(list)-place, 0) {
			return false
		}
	}
	return true
}

func parkingFunctions(n int) [][]int {
	var all [][]int
	eachList(n, n, func(list []int) {
		if isParkingByHand(list) {
			all = append(all, list)
		}
	})
	return all
}

func eachStreet(visit func(list []int, places int)) {
	for places := 1; places <= 5; places++ {
		for cars := range 6 {
			eachList(cars, places, func(list []int) { visit(list, places) })
		}
	}
}

var notFavourites = []struct {
	list   []int
	places int
}{
	{nil, 0}, {nil, -1}, {nil, 13}, {[]int{0}, 0}, {[]int{0}, 13}, {[]int{-1}, 3}, {[]int{3}, 3}, {[]int{0, 12}, 12},
	{[]int{0, 0, 0, 0, 0, 0, 0, 0, 0}, 12}, {[]int{0, 1, math.MaxInt}, 5}, {[]int{math.MinInt}, 5},
	{[]int{0}, math.MaxInt}, {[]int{0}, math.MinInt},
}

var notParking = [][]int{
	{1}, {-1}, {1, 1}, {1, 2, 2}, {0, 2}, {0, 0, 3}, {100}, {0, 0, -1}, {7, 7, 7, 7, 7, 7, 7, 7},
	{0, 0, 0, 0, 0, 0, 0, 0, 0}, {0, math.MaxInt}, {math.MinInt, 0},
}

func TestFavouritesLimits(t *testing.T) {
	for _, c := range notFavourites {
		if impl.AreFavourites(c.list, c.places) {
			t.Errorf("%v are no favourites for %d places", c.list, c.places)
		}
	}
	for _, c := range []struct {
		list   []int
		places int
	}{
		{nil, 1}, {[]int{}, 12}, {[]int{0}, 1}, {[]int{11}, 12}, {[]int{0, 11, 11, 11, 11, 11, 11, 0}, 12}, {make([]int, 8), 1},
	} {
		if !impl.AreFavourites(c.list, c.places) {
			t.Errorf("%v are favourites for %d places", c.list, c.places)
		}
	}
}

func TestDriveExamples(t *testing.T) {
	got, ok := impl.DriveCars([]int{1, 0, 1}, 3)
	expectList(t, "places of 1, 0, 1", got, ok, []int{1, 0, 2})
	got, ok = impl.DistancesOf([]int{1, 0, 1}, 3)
	expectList(t, "distances of 1, 0, 1", got, ok, []int{0, 0, 1})
	got, ok = impl.LuckyCars([]int{1, 0, 1}, 3)
	expectList(t, "lucky cars of 1, 0, 1", got, ok, []int{0, 1})
	place, ok := impl.RefusingPlace([]int{1, 2, 2}, 3)
	expectNumber(t, "greatest place that refuses 1, 2, 2", place, ok, 2)
	place, ok = impl.RefusingPlace([]int{1, 1, 1}, 3)
	expectNumber(t, "greatest place that refuses 1, 1, 1", place, ok, 1)
	place, ok = impl.RefusingPlace(make([]int, 8), 7)
	expectNumber(t, "greatest place that refuses too many cars", place, ok, 0)
	got, ok = impl.DriveCars([]int{4, 4, 4, 4, 4, 4, 4, 4}, 12)
	expectList(t, "equal favourites that just fit", got, ok, []int{4, 5, 6, 7, 8, 9, 10, 11})
	got, ok = impl.DriveCars([]int{5, 5, 5, 5, 5, 5, 5, 5}, 12)
	expectNoList(t, "equal favourites, one place too far", got, ok)
	got, ok = impl.DriveCars([]int{5, 5, 2, 4, 4}, 9)
	expectList(t, "a street with free places", got, ok, []int{5, 6, 2, 4, 7})
	got, ok = impl.TakenPlaces([]int{5, 5, 2, 4, 4}, 9)
	expectList(t, "their taken places", got, ok, []int{2, 4, 5, 6, 7})
	total, ok := impl.TotalDistance([]int{5, 5, 2, 4, 4}, 9)
	expectNumber(t, "their total distance", total, ok, 4)
}

func TestDriveAgreesWithHand(t *testing.T) {
	eachStreet(func(list []int, places int) {
		what := fmt.Sprint(list, " on ", places)
		want := drivenByHand(list, places)
		parked := !slices.Contains(want, -1)
		all, ok := impl.DoAllPark(list, places)
		expectAnswer(t, "all park "+what, all, ok, parked)
		stands, okStands := impl.DriveCars(list, places)
		taken, okTaken := impl.TakenPlaces(list, places)
		distances, okDistances := impl.DistancesOf(list, places)
		total, okTotal := impl.TotalDistance(list, places)
		lucky, okLucky := impl.LuckyCars(list, places)
		if !parked {
			expectNoList(t, "places "+what, stands, okStands)
			expectNoList(t, "taken "+what, taken, okTaken)
			expectNoList(t, "distances "+what, distances, okDistances)
			expectNoNumber(t, "total "+what, total, okTotal)
			expectNoList(t, "lucky "+what, lucky, okLucky)
			return
		}
		expectList(t, "places "+what, stands, okStands, want)
		expectList(t, "taken "+what, taken, okTaken, sortedCopy(want))
		var wantDistances, wantLucky []int
		sum := 0
		for car, place := range want {
			wantDistances = append(wantDistances, place-list[car])
			sum += place - list[car]
			if place == list[car] {
				wantLucky = append(wantLucky, car)
			}
		}
		expectList(t, "distances "+what, distances, okDistances, wantDistances)
		expectNumber(t, "total "+what, total, okTotal, sum)
		expectList(t, "lucky "+what, lucky, okLucky, wantLucky)
	})
}

// TestOrderDoesNotMatter holds each list against its sorted one, and so all orders of it against each other.
func TestOrderDoesNotMatter(t *testing.T) {
	eachStreet(func(list []int, places int) {
		sorted := sortedCopy(list)
		taken, ok := impl.TakenPlaces(list, places)
		wantTaken, wantOk := impl.TakenPlaces(sorted, places)
		if ok != wantOk || !slices.Equal(taken, wantTaken) {
			t.Errorf("%v on %d: taken %v, %v, but in order %v, %v", list, places, taken, ok, wantTaken, wantOk)
		}
		total, ok := impl.TotalDistance(list, places)
		wantTotal, wantOk := impl.TotalDistance(sorted, places)
		if ok != wantOk || total != wantTotal {
			t.Errorf("%v on %d: total %v, %v, but in order %v, %v", list, places, total, ok, wantTotal, wantOk)
		}
	})
}

func TestRefusingPlaceDecides(t *testing.T) {
	eachStreet(func(list []int, places int) {
		want := -1
		for place := range places {
			if atLeast(list, place) > places-place {
				want = place
			}
		}
		what := fmt.Sprint("refusing ", list, " on ", places)
		place, refused := impl.RefusingPlace(list, places)
		if want < 0 {
			expectNoNumber(t, what, place, refused)
		} else {
			expectNumber(t, what, place, refused, want)
		}
		all, ok := impl.DoAllPark(list, places)
		expectAnswer(t, what, all, ok, !refused)
	})
}

func TestParkingDecidesAlike(t *testing.T) {
	for n := range 6 {
		eachList(n, n+2, func(list []int) {
			what := fmt.Sprint("parking ", list)
			want := isParkingByHand(list)
			is, ok := impl.IsParking(list)
			expectAnswer(t, what, is, ok, want)
			fits, ok := impl.SortedFits(list)
			expectAnswer(t, what+" sorted", fits, ok, want)
			if impl.AreFavourites(list, n) {
				all, ok := impl.DoAllPark(list, n)
				expectAnswer(t, what+" on its street", all, ok, want)
			}
		})
	}
}

func TestParkingLimits(t *testing.T) {
	judges := map[string]func([]int) (bool, bool){"IsParking": impl.IsParking, "SortedFits": impl.SortedFits}
	for name, judge := range judges {
		for _, list := range [][]int{nil, {}, {0}, make([]int, 8), {7, 6, 5, 4, 3, 2, 1, 0}, {7, 0, 0, 0, 0, 0, 0, 6}} {
			is, ok := judge(list)
			expectAnswer(t, fmt.Sprint(name, list), is, ok, true)
		}
		for _, list := range [][]int{{1}, {99}, {0, 0, 99}, {8, 0, 0, 0, 0, 0, 0, 0}, {7, 7, 0, 0, 0, 0, 0, 0}, {1, 2, 2}} {
			is, ok := judge(list)
			expectAnswer(t, fmt.Sprint(name, list), is, ok, false)
		}
		for _, list := range [][]int{{100}, {0, 100}, {-1}, {0, -1}, make([]int, 9), {math.MaxInt}, {math.MinInt}} {
			is, ok := judge(list)
			expectNoAnswer(t, fmt.Sprint(name, list), is, ok)
		}
	}
}

func TestIsBelowAndMixOf(t *testing.T) {
	for n := range 4 {
		for _, a := range parkingFunctions(n) {
			for _, b := range parkingFunctions(n) {
				low, high := make([]int, n), make([]int, n)
				for i := range a {
					low[i], high[i] = min(a[i], b[i]), max(a[i], b[i])
				}
				what := fmt.Sprint(a, b)
				below, ok := impl.IsBelow(a, b)
				expectAnswer(t, "below "+what, below, ok, slices.Equal(low, a))
				mix, ok := impl.MixOf(a, b, true)
				expectList(t, "low mix "+what, mix, ok, low)
				mix, ok = impl.MixOf(a, b, false)
				if isParkingByHand(high) {
					expectList(t, "high mix "+what, mix, ok, high)
				} else {
					expectNoList(t, "high mix "+what, mix, ok)
				}
			}
		}
	}
}

func TestIsBelowAndMixOfOthers(t *testing.T) {
	for _, pair := range [][2][]int{{nil, {0}}, {{0}, {0, 0}}, {{0, 0, 0}, {0, 1}}} {
		below, ok := impl.IsBelow(pair[0], pair[1])
		expectAnswer(t, fmt.Sprint("below, other lengths ", pair), below, ok, false)
		for _, low := range []bool{true, false} {
			mix, ok := impl.MixOf(pair[0], pair[1], low)
			expectNoList(t, fmt.Sprint("mix, other lengths ", pair), mix, ok)
		}
	}
	for _, bad := range notParking {
		good := make([]int, min(len(bad), 8))
		for _, pair := range [][2][]int{{bad, good}, {good, bad}, {bad, bad}} {
			below, ok := impl.IsBelow(pair[0], pair[1])
			expectNoAnswer(t, fmt.Sprint("below ", pair), below, ok)
			for _, low := range []bool{true, false} {
				mix, ok := impl.MixOf(pair[0], pair[1], low)
				expectNoList(t, fmt.Sprint("mix ", pair), mix, ok)
			}
		}
	}
}

func TestOutcomesAgreeWithDrives(t *testing.T) {
	for n := range 6 {
		byOutcome := map[string][][]int{}
		for _, list := range parkingFunctions(n) {
			outcome := fmt.Sprint(drivenByHand(list, n))
			byOutcome[outcome] = append(byOutcome[outcome], list)
		}
		outcomes := 0
		eachList(n, n, func(order []int) {
			want := byOutcome[fmt.Sprint(order)]
			count, ok := impl.CountWithOutcome(order)
			all, okAll := impl.AllWithOutcome(order)
			if want == nil {
				expectNoNumber(t, fmt.Sprint("count with outcome ", order), count, ok)
				expectNoLists(t, fmt.Sprint("all with outcome ", order), all, okAll)
				return
			}
			outcomes++
			expectNumber(t, fmt.Sprint("count with outcome ", order), count, ok, len(want))
			if !okAll || !slices.EqualFunc(all, want, slices.Equal) {
				t.Errorf("all with outcome %v: got %v, %v, want %v", order, all, okAll, want)
			}
		})
		if outcomes != len(byOutcome) {
			t.Errorf("%d cars have %d outcomes, want %d", n, outcomes, len(byOutcome))
		}
	}
}

func expectNoLists(t *testing.T, what string, got [][]int, ok bool) {
	t.Helper()
	if ok || len(got) != 0 {
		t.Errorf("%s: got %d lists, %v, want a failure with no list", what, len(got), ok)
	}
}

// TestOutcomeLimits uses orders whose counts are nearest to the limit of 500: no order of 8 cars has 481 to 503.
func TestOutcomeLimits(t *testing.T) {
	count, ok := impl.CountWithOutcome([]int{0, 1, 2, 3, 4, 5, 6, 7})
	expectNumber(t, "cars in their order", count, ok, 40320)
	count, ok = impl.CountWithOutcome([]int{7, 6, 5, 4, 3, 2, 1, 0})
	expectNumber(t, "cars in the opposite order", count, ok, 1)

	most := []int{0, 1, 3, 2, 5, 6, 4, 7}
	count, ok = impl.CountWithOutcome(most)
	expectNumber(t, "as many as may be listed", count, ok, 480)
	all, ok := impl.AllWithOutcome(most)
	if !ok || len(all) != 480 {
		t.Errorf("as many as may be listed: got %d lists, %v", len(all), ok)
	}
	for i, list := range all {
		if i > 0 && slices.Compare(all[i-1], list) >= 0 || !slices.Equal(drivenByHand(list, 8), most) {
			t.Errorf("list %d with the outcome %v: %v", i, most, list)
		}
	}

	tooMany := []int{0, 1, 3, 4, 2, 5, 7, 6}
	count, ok = impl.CountWithOutcome(tooMany)
	expectNumber(t, "too many to be listed", count, ok, 504)
	all, ok = impl.AllWithOutcome(tooMany)
	expectNoLists(t, "too many to be listed", all, ok)

	for _, order := range [][]int{{1}, {-1}, {0, 0}, {1, 1}, {0, 2}, {1, 2, 3}, {0, 1, 2, 3, 4, 5, 6, 7, 8}, {math.MaxInt}, {math.MinInt}} {
		count, ok := impl.CountWithOutcome(order)
		expectNoNumber(t, fmt.Sprint("count with outcome ", order), count, ok)
		all, ok := impl.AllWithOutcome(order)
		expectNoLists(t, fmt.Sprint("all with outcome ", order), all, ok)
	}
}

func TestCuts(t *testing.T) {
	for _, c := range []struct{ list, cuts []int }{
		{nil, nil},
		{[]int{0}, nil},
		{[]int{0, 0}, nil},
		{[]int{1, 0}, []int{1}},
		{[]int{1, 0, 1}, []int{1}},
		{[]int{0, 2, 0}, []int{2}},
		{[]int{0, 1, 2, 3, 4, 5, 6, 7}, []int{1, 2, 3, 4, 5, 6, 7}},
		{[]int{7, 0, 1, 1, 1, 1, 1, 1}, []int{1, 7}},
		{make([]int, 8), nil},
	} {
		got, ok := impl.CutsOf(c.list)
		expectList(t, fmt.Sprint("cuts of ", c.list), got, ok, c.cuts)
	}
	for n := range 6 {
		for _, list := range parkingFunctions(n) {
			var want []int
			for j := 1; j < n; j++ {
				if n-atLeast(list, j) == j {
					want = append(want, j)
				}
			}
			got, ok := impl.CutsOf(list)
			expectList(t, fmt.Sprint("cuts of ", list), got, ok, want)
		}
	}
	for _, list := range notParking {
		got, ok := impl.CutsOf(list)
		expectNoList(t, fmt.Sprint("cuts of ", list), got, ok)
	}
}

func TestJoinHasAllCuts(t *testing.T) {
	for total := range 6 {
		for n := range total + 1 {
			for _, a := range parkingFunctions(n) {
				for _, b := range parkingFunctions(total - n) {
					want := slices.Clone(a)
					for _, x := range b {
						want = append(want, x+n)
					}
					joined, ok := impl.JoinParking(a, b)
					expectList(t, fmt.Sprint("join ", a, b), joined, ok, want)
					expectCutsOfJoin(t, a, b, joined)
				}
			}
		}
	}
}

func expectCutsOfJoin(t *testing.T, a []int, b []int, joined []int) {
	t.Helper()
	cuts, _ := impl.CutsOf(a)
	want := slices.Clone(cuts)
	if len(a) > 0 && len(b) > 0 {
		want = append(want, len(a))
	}
	behind, _ := impl.CutsOf(b)
	for _, j := range behind {
		want = append(want, len(a)+j)
	}
	got, ok := impl.CutsOf(joined)
	expectList(t, fmt.Sprint("cuts of joined ", a, b), got, ok, want)
}

func TestJoinLimits(t *testing.T) {
	four, five := []int{0, 1, 0, 3}, []int{0, 0, 0, 0, 4}
	joined, ok := impl.JoinParking(four, four)
	expectList(t, "join to 8 cars", joined, ok, []int{0, 1, 0, 3, 4, 5, 4, 7})
	joined, ok = impl.JoinParking(make([]int, 8), nil)
	expectList(t, "join 8 cars and none", joined, ok, make([]int, 8))
	joined, ok = impl.JoinParking(nil, make([]int, 8))
	expectList(t, "join no car and 8", joined, ok, make([]int, 8))
	joined, ok = impl.JoinParking(four, five)
	expectNoList(t, "join to 9 cars", joined, ok)
	joined, ok = impl.JoinParking(make([]int, 8), []int{0})
	expectNoList(t, "join 8 cars and one", joined, ok)
	for _, bad := range notParking {
		joined, ok = impl.JoinParking(bad, nil)
		expectNoList(t, fmt.Sprint("join ", bad, " and none"), joined, ok)
		joined, ok = impl.JoinParking(nil, bad)
		expectNoList(t, fmt.Sprint("join none and ", bad), joined, ok)
	}
	// Put together, these two would be a parking function.
	joined, ok = impl.JoinParking([]int{0, 2}, []int{-1})
	expectNoList(t, "join lists that are none", joined, ok)
}

func TestTexts(t *testing.T) {
	for n := range 6 {
		for _, list := range parkingFunctions(n) {
			want := strings.Trim(fmt.Sprint(list), "[]")
			text, ok := impl.ParkText(list)
			if !ok || text != want {
				t.Errorf("text of %v: got %q, %v, want %q", list, text, ok, want)
			}
			got, ok := impl.ParsePark(text)
			expectList(t, fmt.Sprintf("parse %q", text), got, ok, list)
		}
	}
	got, ok := impl.ParsePark("7 6 5 4 3 2 1 0")
	expectList(t, "parse 8 cars", got, ok, []int{7, 6, 5, 4, 3, 2, 1, 0})
	for _, list := range notParking {
		if text, ok := impl.ParkText(list); ok || text != "" {
			t.Errorf("text of %v: got %q, %v", list, text, ok)
		}
	}
	for _, s := range []string{
		" ", "  ", "0 ", " 0", "0  0", "00", "01 0", "0 01", "+0", "-0", "-1", "0 +1", "1", "0 2", "1 2 2", "a", "0 a", "0,0",
		"0\t0", "0\n", "0\n0", "0\x00", "0 0 0 0 0 0 0 0 0", "0.0", "0x0", "0_0", "\u0660", "9223372036854775808", "\xff",
		strings.Repeat("0", 1000), strings.Repeat("0 ", 1000), strings.Repeat(" ", 1000), "0 0 0 0 0 0 0 8",
	} {
		got, ok := impl.ParsePark(s)
		expectNoList(t, fmt.Sprintf("parse %q", s), got, ok)
	}
}
