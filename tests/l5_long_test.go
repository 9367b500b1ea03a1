package tests

import (
	"fmt"
	"math"
	"slices"
	"testing"

	"loop.example/g01115/impl"
)

// Lists that are no lengths: none, one less than 1, too many, or a sum that is too great. The last ones have a small sum if it is made with wraparound.
var notLengths = [][]int{
	nil, {}, {0}, {-1}, {0, 1}, {1, 0}, {1, 0, 1}, {2, -1}, {-1, 2}, {3, -1, 1}, {1, 1, 1, 1, 1, 1, 1, 0}, {1, 1, 1, 1, 1, 1, 1, 1, 1}, {1, 1, 1, 1, 1, 1, 1, 1, 4},
	{13}, {12, 1}, {1, 12}, {6, 7}, {1, 1, 1, 1, 1, 1, 1, 6}, {2, 2, 2, 2, 2, 2, 1}, make([]int, 8), slices.Repeat([]int{1}, 12), slices.Repeat([]int{1}, 100),
	{math.MaxInt}, {math.MinInt}, {1, math.MinInt}, {math.MinInt, 1}, {1, math.MaxInt},
	{math.MaxInt, math.MaxInt, 4}, {math.MaxInt, math.MaxInt, 2, 1}, {4, math.MaxInt, math.MaxInt}, {math.MinInt, math.MinInt, 3},
}

// notLong has lengths with lists that are no favourites for them: too few or too many, or outside the street.
var notLong = []struct{ list, lengths []int }{
	{nil, []int{1}}, {[]int{}, []int{2, 1}}, {[]int{0}, []int{2, 1}}, {[]int{0, 0}, []int{2}}, {[]int{0, 0, 0}, []int{2, 1}}, {[]int{0, 1}, []int{1, 1, 1}},
	{make([]int, 7), slices.Repeat([]int{1}, 8)}, {make([]int, 8), slices.Repeat([]int{1}, 7)}, {make([]int, 9), slices.Repeat([]int{1}, 8)},
	{[]int{1}, []int{1}}, {[]int{-1}, []int{1}}, {[]int{0, 3}, []int{2, 1}}, {[]int{3, 0}, []int{2, 1}}, {[]int{0, -1}, []int{2, 1}}, {[]int{-1, 0}, []int{2, 1}},
	{[]int{12}, []int{12}}, {[]int{0, 12}, []int{5, 7}}, {[]int{math.MaxInt}, []int{2}}, {[]int{math.MinInt}, []int{2}}, {[]int{0, math.MaxInt}, []int{2, 1}}, {[]int{2, math.MinInt}, []int{2, 1}},
}

// longByHand returns the first places of the long cars that come before one is blocked.
func longByHand(list []int, lengths []int) []int {
	street := make([]string, sumOf(lengths))
	var stands []int
	for car, favourite := range list {
		behind := slices.Index(street[favourite:], "")
		first := favourite + behind
		end := first + lengths[car]
		if behind < 0 || end > len(street) {
			return stands
		}
		for place := first; place < end; place++ {
			if street[place] != "" {
				return stands
			}
			street[place] = "taken"
		}
		stands = append(stands, first)
	}
	return stands
}

// backByHand is the drive of cars that look back, with -1 for the cars that fail.
func backByHand(list []int, places int, back int) []int {
	var stands []int
	for _, favourite := range list {
		var tried []int
		for place := favourite; place >= 0 && favourite-place <= back; place-- {
			tried = append(tried, place)
		}
		for place := favourite + 1; place < places; place++ {
			tried = append(tried, place)
		}
		stand := -1
		for _, place := range tried {
			if !slices.Contains(stands, place) {
				stand = place
				break
			}
		}
		stands = append(stands, stand)
	}
	return stands
}

// countLongByHand counts for each set of taken places, a bit each, in how many ways the cars so far take it.
func countLongByHand(lengths []int) int {
	places := sumOf(lengths)
	ways := map[uint]int{0: 1}
	for _, length := range lengths {
		behind := map[uint]int{}
		for taken, count := range ways {
			for favourite := range places {
				first := favourite
				for taken>>first&1 == 1 {
					first++
				}
				parked := (uint(1)<<length - 1) << first
				if first+length <= places && taken&parked == 0 {
					behind[taken|parked] += count
				}
			}
		}
		ways = behind
	}
	return ways[1<<places-1]
}

func failedByHand(stands []int) int {
	failed := 0
	for _, place := range stands {
		if place < 0 {
			failed++
		}
	}
	return failed
}

// eachLengths visits all lengths with a given sum, of at most as many cars.
func eachLengths(sum int, most int, visit func(lengths []int)) {
	var fill func(lengths []int, left int)
	fill = func(lengths []int, left int) {
		if left == 0 {
			visit(slices.Clone(lengths))
			return
		}
		for length := 1; length <= left && len(lengths) < most; length++ {
			fill(append(slices.Clone(lengths), length), left-length)
		}
	}
	fill(nil, sum)
}

func eachShortLengths(visit func(lengths []int)) {
	for sum := 1; sum <= 6; sum++ {
		eachLengths(sum, 8, visit)
	}
	eachLengths(12, 3, visit)
}

// eachFullStreet visits lists with which it is hard to park: for as many cars as there are places, or for the most cars, in a part of the street.
func eachFullStreet(visit func(list []int, places int)) {
	for places := 6; places <= 12; places++ {
		for seed := range 400 {
			list := make([]int, min(places, 8))
			least, x := seed%places, seed
			for car := range list {
				x = (x*1103 + 377*car + 12345) % 100003
				list[car] = least + x%(places-least)
			}
			visit(list, places)
		}
	}
}

func expectLong(t *testing.T, list []int, lengths []int) {
	t.Helper()
	what := fmt.Sprint(" of ", list, " with lengths ", lengths)
	want := longByHand(list, lengths)
	isLong := len(want) == len(list)
	is, ok := impl.IsLongParking(list, lengths)
	expectAnswer(t, "is long parking"+what, is, ok, isLong)
	stands, okStands := impl.DriveLong(list, lengths)
	blocked, okBlocked := impl.BlockedCar(list, lengths)
	if isLong {
		expectList(t, "first places"+what, stands, okStands, want)
		expectNoNumber(t, "blocked car"+what, blocked, okBlocked)
	} else {
		expectNoList(t, "first places"+what, stands, okStands)
		expectNumber(t, "blocked car"+what, blocked, okBlocked, len(want))
	}
}

func expectNoLong(t *testing.T, list []int, lengths []int) {
	t.Helper()
	what := fmt.Sprint(" of ", list, " with lengths ", lengths)
	is, ok := impl.IsLongParking(list, lengths)
	expectNoAnswer(t, "is long parking"+what, is, ok)
	stands, ok := impl.DriveLong(list, lengths)
	expectNoList(t, "first places"+what, stands, ok)
	blocked, ok := impl.BlockedCar(list, lengths)
	expectNoNumber(t, "blocked car"+what, blocked, ok)
}

func expectBack(t *testing.T, list []int, places int, back int) {
	t.Helper()
	what := fmt.Sprint(" of ", list, " on ", places, " back ", back)
	want := backByHand(list, places, back)
	all, ok := impl.DoParkBack(list, places, back)
	expectAnswer(t, "do park"+what, all, ok, failedByHand(want) == 0)
	stands, ok := impl.DriveBack(list, places, back)
	if failedByHand(want) == 0 {
		expectList(t, "places"+what, stands, ok, want)
	} else {
		expectNoList(t, "places"+what, stands, ok)
	}
}

func expectNoBack(t *testing.T, list []int, places int, back int) {
	t.Helper()
	what := fmt.Sprint(" of ", list, " on ", places, " back ", back)
	all, ok := impl.DoParkBack(list, places, back)
	expectNoAnswer(t, "do park"+what, all, ok)
	stands, ok := impl.DriveBack(list, places, back)
	expectNoList(t, "places"+what, stands, ok)
}

func TestLongExamples(t *testing.T) {
	for _, c := range []struct{ list, lengths, stands []int }{
		{[]int{0, 0}, []int{2, 1}, []int{0, 2}},
		{[]int{0, 1}, []int{2, 1}, []int{0, 2}},
		{[]int{0, 2}, []int{2, 1}, []int{0, 2}},
		{[]int{1, 0}, []int{2, 1}, []int{1, 0}},
		{[]int{0}, []int{1}, []int{0}},
		{[]int{0}, []int{12}, []int{0}},
		{[]int{7, 0}, []int{5, 7}, []int{7, 0}},
		{[]int{0, 0, 0}, []int{3, 4, 5}, []int{0, 3, 7}},
		{[]int{4, 1, 0, 5}, []int{2, 3, 1, 1}, []int{4, 1, 0, 6}},
		{make([]int, 8), []int{1, 2, 1, 2, 1, 2, 1, 2}, []int{0, 1, 3, 4, 6, 7, 9, 10}},
		{[]int{7, 6, 5, 4, 3, 2, 1, 0}, slices.Repeat([]int{1}, 8), []int{7, 6, 5, 4, 3, 2, 1, 0}},
	} {
		what := fmt.Sprint(" of ", c.list, " with lengths ", c.lengths)
		stands, ok := impl.DriveLong(c.list, c.lengths)
		expectList(t, "first places"+what, stands, ok, c.stands)
		is, ok := impl.IsLongParking(c.list, c.lengths)
		expectAnswer(t, "is long parking"+what, is, ok, true)
		blocked, ok := impl.BlockedCar(c.list, c.lengths)
		expectNoNumber(t, "blocked car"+what, blocked, ok)
	}
}

func TestBlockedLongCars(t *testing.T) {
	for _, c := range []struct {
		why           string
		list, lengths []int
		blocked       int
	}{
		{"a place is missing", []int{2, 0}, []int{2, 1}, 0},
		{"a place is missing for a car as long as the street", []int{1}, []int{12}, 0},
		{"all but one are missing", []int{11}, []int{12}, 0},
		{"a place is missing after the drive", []int{1, 1}, []int{2, 2}, 1},
		{"a place is taken", []int{1, 0}, []int{1, 2}, 1},
		{"a place is taken, and a later row is long enough", []int{1, 0, 4}, []int{1, 2, 2}, 1},
		{"the last of its places is taken", []int{3, 0}, []int{1, 4}, 1},
		{"no place is free", []int{1, 1}, []int{2, 1}, 1},
		{"no place is free for a short one", []int{1, 1}, []int{1, 1}, 1},
		{"two are, the first one counts", []int{2, 2, 2}, []int{1, 1, 1}, 1},
		{"the last of the most cars is", []int{1, 1, 1, 1, 1, 1, 1, 1}, slices.Repeat([]int{1}, 8), 7},
	} {
		what := fmt.Sprint(c.why, ": ", c.list, " with lengths ", c.lengths)
		blocked, ok := impl.BlockedCar(c.list, c.lengths)
		expectNumber(t, what, blocked, ok, c.blocked)
		is, ok := impl.IsLongParking(c.list, c.lengths)
		expectAnswer(t, what, is, ok, false)
		stands, ok := impl.DriveLong(c.list, c.lengths)
		expectNoList(t, what, stands, ok)
	}
}

// TestLongCarsAreCounted holds each drive against that by hand, and the product against the number of those that park.
func TestLongCarsAreCounted(t *testing.T) {
	eachShortLengths(func(lengths []int) {
		parked := 0
		eachList(len(lengths), sumOf(lengths), func(list []int) {
			expectLong(t, list, lengths)
			if len(longByHand(list, lengths)) == len(list) {
				parked++
			}
		})
		count, ok := impl.CountLong(lengths)
		expectNumber(t, fmt.Sprint("long parking functions with lengths ", lengths), count, ok, parked)
	})
}

func TestCountLong(t *testing.T) {
	for _, c := range []struct {
		lengths []int
		want    int
	}{
		{[]int{2, 1}, 4}, {[]int{1}, 1}, {[]int{12}, 1}, {[]int{11, 1}, 13}, {[]int{1, 11}, 3}, {[]int{4, 4, 4}, 70},
		{[]int{5, 1, 1, 1, 1, 1, 1, 1}, 62748517}, {[]int{1, 1, 1, 1, 1, 1, 1, 5}, 4782969}, {[]int{1, 2, 1, 2, 1, 2, 1, 2}, 15681600},
	} {
		got, ok := impl.CountLong(c.lengths)
		expectNumber(t, fmt.Sprint("long parking functions with lengths ", c.lengths), got, ok, c.want)
	}
	check := func(lengths []int) {
		got, ok := impl.CountLong(lengths)
		expectNumber(t, fmt.Sprint("long parking functions with lengths ", lengths), got, ok, countLongByHand(lengths))
	}
	for sum := 1; sum <= 8; sum++ {
		eachLengths(sum, 8, check)
	}
	eachLengths(12, 4, check)
	for _, lengths := range [][]int{
		{5, 1, 1, 1, 1, 1, 1, 1}, {1, 1, 1, 1, 1, 1, 1, 5}, {1, 2, 1, 2, 1, 2, 1, 2}, {2, 2, 2, 2, 1, 1, 1, 1}, {1, 1, 1, 1, 2, 2, 2, 2}, {1, 3, 1, 1, 2, 1, 1, 2},
	} {
		check(lengths)
	}
	for n := 1; n <= impl.MaxCars; n++ {
		want, _ := impl.CountParking(n)
		got, ok := impl.CountLong(slices.Repeat([]int{1}, n))
		expectNumber(t, fmt.Sprint("long parking functions with length 1 of ", n), got, ok, want)
	}
}

// TestShortLongCars holds cars of the length 1 against those without lengths.
func TestShortLongCars(t *testing.T) {
	for n := 1; n <= 5; n++ {
		lengths := slices.Repeat([]int{1}, n)
		eachList(n, n, func(list []int) {
			what := fmt.Sprint(list, " with length 1")
			want, wantOk := impl.DriveCars(list, n)
			got, ok := impl.DriveLong(list, lengths)
			if ok != wantOk || !slices.Equal(got, want) {
				t.Errorf("%s: got %v, %v, want %v, %v", what, got, ok, want, wantOk)
			}
		})
	}
}

func TestNotLong(t *testing.T) {
	for _, lengths := range notLengths {
		what := fmt.Sprint("with lengths ", lengths)
		count, ok := impl.CountLong(lengths)
		expectNoNumber(t, "count "+what, count, ok)
		expectNoLong(t, make([]int, len(lengths)), lengths)
		expectNoLong(t, nil, lengths)
		expectNoLong(t, []int{0}, lengths)
		stretched, ok := impl.StretchList(make([]int, len(lengths)), lengths)
		expectNoList(t, "stretch "+what, stretched, ok)
	}
	for _, c := range notLong {
		expectNoLong(t, c.list, c.lengths)
	}
}

func TestBackExamples(t *testing.T) {
	for _, c := range []struct {
		list         []int
		places, back int
		stands       []int
	}{
		{[]int{1, 1, 1}, 3, 1, []int{1, 0, 2}},
		{[]int{1, 1, 1}, 3, 2, []int{1, 0, 2}},
		{[]int{2, 2, 2}, 3, 2, []int{2, 1, 0}},
		{[]int{2, 2, 2}, 3, 8, []int{2, 1, 0}},
		{[]int{0, 0, 0}, 3, 8, []int{0, 1, 2}},
		{[]int{1, 0, 1}, 3, 0, []int{1, 0, 2}},
		{[]int{3, 2, 3, 3}, 6, 1, []int{3, 2, 4, 5}},
		{[]int{3, 2, 3, 3}, 6, 2, []int{3, 2, 1, 4}},
		{[]int{3, 2, 3, 3}, 6, 3, []int{3, 2, 1, 0}},
		{[]int{0}, 1, 8, []int{0}},
		{nil, 1, 0, nil},
		{nil, 12, 8, nil},
		{slices.Repeat([]int{11}, 8), 12, 8, []int{11, 10, 9, 8, 7, 6, 5, 4}},
		{slices.Repeat([]int{11}, 8), 12, 7, []int{11, 10, 9, 8, 7, 6, 5, 4}},
		{make([]int, 8), 8, 8, []int{0, 1, 2, 3, 4, 5, 6, 7}},
	} {
		what := fmt.Sprint(" of ", c.list, " on ", c.places, " back ", c.back)
		stands, ok := impl.DriveBack(c.list, c.places, c.back)
		expectList(t, "places"+what, stands, ok, c.stands)
		all, ok := impl.DoParkBack(c.list, c.places, c.back)
		expectAnswer(t, "do park"+what, all, ok, true)
	}
	for _, c := range []struct {
		list         []int
		places, back int
	}{
		{[]int{1, 1, 1}, 3, 0}, {[]int{2, 2, 2}, 3, 1}, {[]int{0, 0}, 1, 8}, {slices.Repeat([]int{11}, 8), 12, 6}, {make([]int, 8), 7, 8},
	} {
		what := fmt.Sprint(" of ", c.list, " on ", c.places, " back ", c.back)
		stands, ok := impl.DriveBack(c.list, c.places, c.back)
		expectNoList(t, "places"+what, stands, ok)
		all, ok := impl.DoParkBack(c.list, c.places, c.back)
		expectAnswer(t, "do park"+what, all, ok, false)
	}
}

func TestBackAgreesWithHand(t *testing.T) {
	for back := range 9 {
		eachStreet(func(list []int, places int) { expectBack(t, list, places, back) })
		eachFullStreet(func(list []int, places int) { expectBack(t, list, places, back) })
	}
}

func TestBackZeroIsDrive(t *testing.T) {
	eachStreet(func(list []int, places int) {
		want, wantOk := impl.DriveCars(list, places)
		got, ok := impl.DriveBack(list, places, 0)
		if ok != wantOk || !slices.Equal(got, want) {
			t.Errorf("%v on %d back 0: got %v, %v, want %v, %v", list, places, got, ok, want, wantOk)
		}
	})
}

// TestFartherBackParks holds that cars that look farther back park where others do, and that the least number is where this begins.
func TestFartherBackParks(t *testing.T) {
	check := func(list []int, places int) {
		what := fmt.Sprint("least back of ", list, " on ", places)
		want := -1
		for back := range 9 {
			all, _ := impl.DoParkBack(list, places, back)
			if all && want < 0 {
				want = back
			}
			if !all && want >= 0 {
				t.Errorf("%v on %d: all park for %d, but not for %d", list, places, want, back)
			}
		}
		least, ok := impl.LeastBack(list, places)
		if want < 0 {
			expectNoNumber(t, what, least, ok)
		} else {
			expectNumber(t, what, least, ok, want)
		}
		// Who may look back over all other cars fails on a full street only.
		if ok != (len(list) <= places) {
			t.Errorf("%s: got %v, with %d cars", what, ok, len(list))
		}
	}
	eachStreet(check)
	eachFullStreet(check)
}

func TestLeastBack(t *testing.T) {
	for _, c := range []struct {
		list         []int
		places, want int
	}{
		{[]int{1, 1, 1}, 3, 1}, {[]int{2, 2, 2}, 3, 2}, {[]int{0, 0, 0}, 3, 0}, {nil, 1, 0}, {slices.Repeat([]int{11}, 8), 12, 7}, {slices.Repeat([]int{7}, 8), 8, 7}, {slices.Repeat([]int{8}, 8), 12, 4},
	} {
		got, ok := impl.LeastBack(c.list, c.places)
		expectNumber(t, fmt.Sprint("least back of ", c.list, " on ", c.places), got, ok, c.want)
	}
	for _, c := range []struct {
		list   []int
		places int
	}{
		{[]int{0, 0}, 1}, {make([]int, 8), 7}, {[]int{1, 1, 1}, 2},
	} {
		got, ok := impl.LeastBack(c.list, c.places)
		expectNoNumber(t, fmt.Sprint("least back of ", c.list, " on ", c.places), got, ok)
	}
}

func TestNotBack(t *testing.T) {
	for _, back := range []int{-1, 9, 10, 100, math.MaxInt, math.MinInt} {
		expectNoBack(t, nil, 1, back)
		expectNoBack(t, []int{0}, 1, back)
		expectNoBack(t, []int{1, 1, 1}, 3, back)
		for n := 1; n <= impl.MaxTried; n++ {
			count, ok := impl.CountBack(n, back)
			expectNoNumber(t, fmt.Sprint("count of ", n, " back ", back), count, ok)
		}
	}
	for _, c := range notFavourites {
		for back := range 9 {
			expectNoBack(t, c.list, c.places, back)
		}
		least, ok := impl.LeastBack(c.list, c.places)
		expectNoNumber(t, fmt.Sprint("least back of ", c.list, " on ", c.places), least, ok)
	}
}

func TestCountBack(t *testing.T) {
	for i, counts := range [][]int{
		{1, 1, 1, 1, 1, 1, 1, 1, 1},
		{3, 4, 4, 4, 4, 4, 4, 4, 4},
		{16, 24, 27, 27, 27, 27, 27, 27, 27},
		{125, 203, 240, 256, 256, 256, 256, 256, 256},
		{1296, 2225, 2731, 3000, 3125, 3125, 3125, 3125, 3125},
	} {
		for back, want := range counts {
			n := i + 1
			what := fmt.Sprint("lists of ", n, " that park back ", back)
			got, ok := impl.CountBack(n, back)
			expectNumber(t, what, got, ok, want)
			parked := 0
			eachList(n, n, func(list []int) {
				if all, _ := impl.DoParkBack(list, n, back); all {
					parked++
				}
			})
			expectNumber(t, what+", listed", got, ok, parked)
		}
	}
	for _, n := range []int{0, -1, 6, 7, 8, 9, 100, math.MaxInt, math.MinInt} {
		for back := range 9 {
			got, ok := impl.CountBack(n, back)
			expectNoNumber(t, fmt.Sprint("lists of ", n, " that park back ", back), got, ok)
		}
	}
}

func TestDefects(t *testing.T) {
	check := func(list []int, places int) {
		what := fmt.Sprint(" of ", list, " on ", places)
		want := drivenByHand(list, places)
		stands, ok := impl.DriveSome(list, places)
		expectList(t, "some places"+what, stands, ok, want)
		defect, ok := impl.DefectOf(list, places)
		expectNumber(t, "defect"+what, defect, ok, failedByHand(want))
	}
	eachStreet(check)
	eachFullStreet(check)
	for _, c := range []struct {
		list   []int
		places int
		stands []int
		defect int
	}{
		{[]int{2, 2, 2}, 3, []int{2, -1, -1}, 2},
		{[]int{2, 2, 0, 2, 1}, 3, []int{2, -1, 0, -1, 1}, 2},
		{[]int{1, 0, 1}, 3, []int{1, 0, 2}, 0},
		{nil, 1, nil, 0},
		{nil, 12, nil, 0},
		{make([]int, 8), 1, []int{0, -1, -1, -1, -1, -1, -1, -1}, 7},
		{slices.Repeat([]int{11}, 8), 12, []int{11, -1, -1, -1, -1, -1, -1, -1}, 7},
		{slices.Repeat([]int{4}, 8), 12, []int{4, 5, 6, 7, 8, 9, 10, 11}, 0},
		{slices.Repeat([]int{5}, 8), 12, []int{5, 6, 7, 8, 9, 10, 11, -1}, 1},
	} {
		what := fmt.Sprint(" of ", c.list, " on ", c.places)
		stands, ok := impl.DriveSome(c.list, c.places)
		expectList(t, "some places"+what, stands, ok, c.stands)
		defect, ok := impl.DefectOf(c.list, c.places)
		expectNumber(t, "defect"+what, defect, ok, c.defect)
	}
	for _, c := range notFavourites {
		what := fmt.Sprint(" of ", c.list, " on ", c.places)
		stands, ok := impl.DriveSome(c.list, c.places)
		expectNoList(t, "some places"+what, stands, ok)
		defect, ok := impl.DefectOf(c.list, c.places)
		expectNoNumber(t, "defect"+what, defect, ok)
	}
}

func TestCountByDefect(t *testing.T) {
	for i, want := range [][]int{{1}, {3, 1}, {16, 10, 1}, {125, 107, 23, 1}, {1296, 1346, 436, 46, 1}} {
		n := i + 1
		what := fmt.Sprint("lists of ", n, " by defect")
		got, ok := impl.CountByDefect(n)
		expectList(t, what, got, ok, want)
		byHand := make([]int, n)
		eachList(n, n, func(list []int) { byHand[failedByHand(drivenByHand(list, n))]++ })
		expectList(t, what+", by hand", got, ok, byHand)
	}
	for _, n := range []int{0, -1, 6, 7, 8, 9, 100, math.MaxInt, math.MinInt} {
		got, ok := impl.CountByDefect(n)
		expectNoList(t, fmt.Sprint("lists of ", n, " by defect"), got, ok)
	}
}

func placesNeededByHand(list []int) int {
	for places := 1; places <= 12; places++ {
		if len(list) == 0 || slices.Max(list) < places && failedByHand(drivenByHand(list, places)) == 0 {
			return places
		}
	}
	return -1
}

func TestPlacesNeeded(t *testing.T) {
	check := func(list []int, _ int) {
		what := fmt.Sprint("places for ", list)
		want := placesNeededByHand(list)
		got, ok := impl.PlacesNeeded(list)
		if want < 0 {
			expectNoNumber(t, what, got, ok)
			return
		}
		expectNumber(t, what, got, ok, want)
		all, ok := impl.DoAllPark(list, got)
		expectAnswer(t, what+": all park", all, ok, true)
	}
	eachStreet(check)
	eachFullStreet(check)
	eachList(3, 12, func(list []int) { check(list, 12) })
	for _, c := range []struct {
		list []int
		want int
	}{
		{nil, 1}, {[]int{}, 1}, {[]int{0}, 1}, {[]int{1}, 2}, {[]int{11}, 12}, {[]int{3, 3}, 5}, {[]int{1, 0, 1}, 3}, {[]int{5, 0}, 6}, {make([]int, 8), 8}, {slices.Repeat([]int{4}, 8), 12}, {[]int{10, 10}, 12},
	} {
		got, ok := impl.PlacesNeeded(c.list)
		expectNumber(t, fmt.Sprint("places for ", c.list), got, ok, c.want)
	}
	for _, list := range [][]int{
		{11, 11}, {10, 10, 10}, slices.Repeat([]int{5}, 8), {12}, {-1}, {0, 12}, {0, 13}, make([]int, 9), {math.MaxInt}, {math.MinInt},
	} {
		got, ok := impl.PlacesNeeded(list)
		expectNoNumber(t, fmt.Sprint("places for ", list), got, ok)
	}
}

// stretchedByHand goes from place to place, with the lengths of the cars that stand there.
func stretchedByHand(list []int, lengths []int) []int {
	stands := drivenByHand(list, len(list))
	begins := []int{0}
	for place := range list {
		begins = append(begins, begins[place]+lengths[slices.Index(stands, place)])
	}
	var stretched []int
	for _, favourite := range list {
		stretched = append(stretched, begins[favourite])
	}
	return stretched
}

func TestStretchList(t *testing.T) {
	eachShortLengths(func(lengths []int) {
		for _, list := range parkingFunctions(len(lengths)) {
			what := fmt.Sprint(list, " stretched to ", lengths)
			got, ok := impl.StretchList(list, lengths)
			expectList(t, what, got, ok, stretchedByHand(list, lengths))
			if slices.Max(lengths) == 1 {
				expectList(t, what+" is itself", got, ok, list)
			}
			_, ok = impl.IsLongParking(got, lengths)
			expectAnswer(t, what+": favourites of long cars", ok, ok, true)
		}
	})
	for _, c := range []struct {
		list, lengths, want []int
		isLong              bool
	}{
		{[]int{1, 0, 1}, []int{2, 3, 4}, []int{3, 0, 3}, true},
		{[]int{1, 1, 0}, []int{2, 1, 3}, []int{3, 3, 0}, true},
		{[]int{0, 0, 1}, []int{2, 1, 1}, []int{0, 0, 2}, true},
		{[]int{0, 1, 0}, []int{1, 1, 2}, []int{0, 1, 0}, true},
		{[]int{2, 0, 0}, []int{1, 1, 2}, []int{3, 0, 0}, true},
		{[]int{0}, []int{12}, []int{0}, true},
		{make([]int, 8), []int{1, 1, 1, 1, 1, 1, 1, 5}, make([]int, 8), true},
		{[]int{7, 6, 5, 4, 3, 2, 1, 0}, []int{1, 2, 1, 2, 1, 2, 1, 2}, []int{11, 9, 8, 6, 5, 3, 2, 0}, true},
	} {
		what := fmt.Sprint(c.list, " stretched to ", c.lengths)
		got, ok := impl.StretchList(c.list, c.lengths)
		expectList(t, what, got, ok, c.want)
		is, ok := impl.IsLongParking(got, c.lengths)
		expectAnswer(t, what+" parks", is, ok, c.isLong)
	}
}

func TestNotStretched(t *testing.T) {
	for _, list := range notParking {
		got, ok := impl.StretchList(list, slices.Repeat([]int{1}, len(list)))
		expectNoList(t, fmt.Sprint(list, " stretched"), got, ok)
	}
	for _, c := range notLong {
		got, ok := impl.StretchList(c.list, c.lengths)
		expectNoList(t, fmt.Sprint(c.list, " stretched to ", c.lengths), got, ok)
	}
	// These are favourites of long cars, but no parking functions.
	for _, c := range []struct{ list, lengths []int }{{[]int{1}, []int{2}}, {[]int{0, 2}, []int{2, 1}}, {[]int{1, 1}, []int{2, 2}}} {
		got, ok := impl.StretchList(c.list, c.lengths)
		expectNoList(t, fmt.Sprint(c.list, " stretched to ", c.lengths), got, ok)
	}
}
