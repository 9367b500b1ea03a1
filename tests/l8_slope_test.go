package tests

import (
	"fmt"
	"math"
	"slices"
	"strings"
	"testing"

	"loop.example/g01115/impl"
)

// Numbers that are no slope: one is outside its range, or both have a common divisor.
var notSlopes = [][2]int{
	{0, 1}, {0, 5}, {0, 0}, {1, 0}, {3, 0}, {-1, 1}, {-1, 5}, {1, -1}, {3, -1}, {-3, -5}, {7, 1}, {7, 8}, {7, 13}, {8, 9}, {1, 14}, {3, 14}, {5, 14}, {6, 17}, {1, 15}, {13, 6}, {8, 3},
	{2, 2}, {2, 4}, {2, 12}, {3, 3}, {3, 6}, {3, 9}, {3, 12}, {4, 2}, {4, 6}, {4, 4}, {4, 12}, {5, 5}, {5, 10}, {6, 2}, {6, 3}, {6, 4}, {6, 6}, {6, 8}, {6, 9}, {6, 10}, {6, 12},
	{math.MaxInt, 1}, {math.MinInt, 1}, {1, math.MaxInt}, {1, math.MinInt}, {3, math.MaxInt}, {3, math.MinInt}, {math.MaxInt, math.MinInt}, {math.MinInt, math.MinInt},
}

type slopeList struct {
	list   []int
	across int
}

// Lists that belong to no slope, whatever their numbers are.
var listsOfNoSlope = []slopeList{
	{nil, 1}, {nil, 0}, {nil, 5}, {[]int{}, 1}, {[]int{}, 13}, {make([]int, 7), 8}, {make([]int, 7), 1}, {make([]int, 8), 9}, {make([]int, 1000), 1}, {make([]int, 1000), 13},
	{[]int{0}, 0}, {[]int{0}, -1}, {[]int{0}, 14}, {[]int{0, 0, 0}, 14}, {[]int{0, 0, 0}, -5}, {[]int{0}, math.MaxInt}, {[]int{0}, math.MinInt}, {[]int{0, 0}, math.MaxInt}, {[]int{0, 0, 0}, math.MinInt},
	{[]int{0, 0}, 2}, {[]int{0, 1}, 4}, {[]int{0, 0, 0}, 3}, {[]int{0, 1, 2}, 6}, {[]int{0, 0, 0, 0}, 6}, {[]int{0, 0, 0, 0, 0}, 10}, {[]int{0, 0, 0, 0, 0, 0}, 9}, {[]int{0, 0, 0, 0, 0, 0}, 12},
}

// Lists with a number that is not in 0..across - 1.
var listsOutside = []slopeList{
	{[]int{-1}, 1}, {[]int{1}, 1}, {[]int{13}, 13}, {[]int{-1}, 13}, {[]int{5, 0, 0}, 5}, {[]int{0, 0, 5}, 5}, {[]int{0, -1, 0}, 5}, {[]int{0, 0, -1}, 5}, {[]int{0, 1}, 1}, {[]int{0, 0, 0, 0, 0, 13}, 13}, {[]int{-1, 0, 0, 0, 0, 0}, 13},
	{[]int{math.MaxInt, 0, 0}, 5}, {[]int{0, math.MinInt, 0}, 5}, {[]int{math.MinInt}, 1}, {[]int{math.MaxInt}, 13}, {[]int{math.MinInt, math.MaxInt}, 3},
}

// Lists of numbers in 0..across - 1 that are no slope parking functions.
var listsAbove = []slopeList{
	{[]int{1}, 2}, {[]int{12}, 13}, {[]int{4, 4, 4}, 5}, {[]int{1, 1, 1}, 5}, {[]int{0, 2, 2}, 5}, {[]int{4, 0, 0}, 5}, {[]int{0, 4, 1}, 5}, {[]int{1, 2}, 3}, {[]int{0, 2}, 3}, {[]int{0, 2, 4}, 5},
	{[]int{0, 1, 2, 3, 5}, 6}, {[]int{0, 0, 0, 0, 0, 11}, 13}, {[]int{0, 0, 0, 9, 9, 0}, 13}, {[]int{1, 1, 1, 1, 1, 1}, 13}, {[]int{10, 8, 6, 5, 3, 0}, 13},
}

// Slope parking functions that fall.
var fallingLists = []slopeList{
	{[]int{1, 0}, 3}, {[]int{0, 1, 0}, 5}, {[]int{3, 1, 0}, 5}, {[]int{1, 0, 3}, 5}, {[]int{0, 3, 1}, 5}, {[]int{2, 0, 0, 0}, 5}, {[]int{0, 0, 0, 0, 1, 0}, 7}, {[]int{0, 2, 4, 6, 10, 8}, 13}, {[]int{10, 8, 6, 4, 2, 0}, 13},
}

// Slopes that are too great to try all their lists.
var greatSlopes = [][2]int{{4, 13}, {5, 8}, {5, 9}, {5, 11}, {5, 12}, {5, 13}, {6, 7}, {6, 11}, {6, 13}}

func isSlopeByHand(cars int, across int) bool {
	if cars < 1 || cars > 6 || across < 1 || across > 13 {
		return false
	}
	for divisor := 2; divisor <= cars; divisor++ {
		if cars%divisor == 0 && across%divisor == 0 {
			return false
		}
	}
	return true
}

func slopeBoundsByHand(cars int, across int) []int {
	var bounds []int
	for i := range cars {
		bound := 0
		for (bound+1)*cars <= i*across {
			bound++
		}
		bounds = append(bounds, bound)
	}
	return bounds
}

// isSlopeParkingByHand counts the numbers that are at most each bound.
func isSlopeParkingByHand(list []int, across int) bool {
	for i, bound := range slopeBoundsByHand(len(list), across) {
		few := 0
		for _, x := range list {
			if x < 0 {
				return false
			}
			if x <= bound {
				few++
			}
		}
		if few < i+1 {
			return false
		}
	}
	return true
}

func eachSlope(visit func(cars int, across int)) {
	for cars := 1; cars <= 6; cars++ {
		for across := 1; across <= 13; across++ {
			if isSlopeByHand(cars, across) {
				visit(cars, across)
			}
		}
	}
}

// eachSmallSlope leaves out those that have many lists.
func eachSmallSlope(visit func(cars int, across int)) {
	eachSlope(func(cars int, across int) {
		if math.Pow(float64(across), float64(cars)) < 20000 {
			visit(cars, across)
		}
	})
}

func slopeParkingsByHand(cars int, across int) [][]int {
	var all [][]int
	eachList(cars, across, func(list []int) {
		if isSlopeParkingByHand(list, across) {
			all = append(all, list)
		}
	})
	return all
}

// eachSlopeList visits all lists of numbers in 0..across - 1 for small slopes, and samples for great ones.
func eachSlopeList(visit func(list []int, across int)) {
	eachSmallSlope(func(cars int, across int) {
		eachList(cars, across, func(list []int) { visit(list, across) })
	})
	for _, slope := range greatSlopes {
		seed := slope[0] + slope[1]
		for sample := range 600 {
			list := make([]int, slope[0])
			for i := range list {
				seed = (seed*7141 + 54773) % 259200
				list[i] = seed / 7 % min(slope[1], 4+sample/20)
			}
			visit(list, slope[1])
		}
		visit(make([]int, slope[0]), slope[1])
		visit(slopeBoundsByHand(slope[0], slope[1]), slope[1])
		visit(slices.Repeat([]int{slope[1] - 1}, slope[0]), slope[1])
	}
}

// eachSlopeWalk visits all slope walks of all slopes.
func eachSlopeWalk(visit func(walk []int, across int)) {
	eachSlope(func(cars int, across int) {
		for _, walk := range slopeWalksByHand(cars, across) {
			visit(walk, across)
		}
	})
}

func slopeWalksByHand(cars int, across int) [][]int {
	var all [][]int
	bounds := slopeBoundsByHand(cars, across)
	var fill func(walk []int, least int)
	fill = func(walk []int, least int) {
		if len(walk) == cars {
			all = append(all, walk)
			return
		}
		for x := least; x <= bounds[len(walk)]; x++ {
			fill(append(slices.Clone(walk), x), x)
		}
	}
	fill(nil, 0)
	return all
}

// turnsByHand returns all numbers whose addition makes a list a slope parking function.
func turnsByHand(list []int, across int) []int {
	var turns []int
	for by := range across {
		if isSlopeParkingByHand(turnedListByHand(list, across, by), across) {
			turns = append(turns, by)
		}
	}
	return turns
}

func turnedListByHand(list []int, across int, by int) []int {
	turned := slices.Clone(list)
	for i := range turned {
		turned[i] = (turned[i] + by) % across
	}
	return turned
}

// nextSlopeByHand counts on until there is a slope parking function again; it returns nil behind the last one.
func nextSlopeByHand(list []int, across int) []int {
	next := slices.Clone(list)
	for {
		i := len(next) - 1
		for i >= 0 && next[i] == across-1 {
			next[i] = 0
			i--
		}
		if i < 0 {
			return nil
		}
		next[i]++
		if isSlopeParkingByHand(next, across) {
			return next
		}
	}
}

func slopeAreaByHand(list []int, across int) int {
	return sumOf(slopeBoundsByHand(len(list), across)) - sumOf(list)
}

// slopePathByHand has a step up for each number, with as many steps right before it as the number tells.
func slopePathByHand(walk []int, across int) string {
	path, rights := "", 0
	for _, x := range walk {
		path += strings.Repeat("r", x-rights) + "u"
		rights = x
	}
	return path + strings.Repeat("r", across-rights)
}

func turnedSlopeByHand(walk []int, across int) []int {
	var turned []int
	path := slopePathByHand(walk, across)
	for i := len(path) - 1; i >= 0; i-- {
		if path[i] == 'r' {
			turned = append(turned, strings.Count(path[i:], "u"))
		}
	}
	return turned
}

// levelsByHand climbs along the path.
func levelsByHand(walk []int, across int) []int {
	var levels []int
	level := 0
	for _, step := range slopePathByHand(walk, across) {
		if step == 'r' {
			level -= len(walk)
			continue
		}
		levels = append(levels, level)
		level += across
	}
	return levels
}

func besideByHand(list []int) []int {
	beside := slices.Clone(list)
	for i, x := range list {
		for j, other := range list {
			if other < x || other == x && j < i {
				beside[i]++
			}
		}
	}
	return beside
}

func TestIsSlope(t *testing.T) {
	slopes := 0
	for cars := -3; cars <= 30; cars++ {
		for across := -3; across <= 30; across++ {
			got := impl.IsSlope(cars, across)
			if got != isSlopeByHand(cars, across) {
				t.Errorf("%d cars and %d across are a slope: got %v", cars, across, got)
			}
			if got {
				slopes++
			}
		}
	}
	if want := 13 + 7 + 9 + 7 + 11 + 5; slopes != want {
		t.Errorf("there are %d slopes, want %d", slopes, want)
	}
}

func TestNotSlopes(t *testing.T) {
	for _, numbers := range notSlopes {
		cars, across := numbers[0], numbers[1]
		what := fmt.Sprint(" of ", cars, " cars and ", across)
		if impl.IsSlope(cars, across) {
			t.Errorf("slope%s", what)
		}
		bounds, ok := impl.BoundsOf(cars, across)
		expectNoList(t, "bounds"+what, bounds, ok)
		number, ok := impl.CountSlope(cars, across)
		expectNoNumber(t, "count"+what, number, ok)
		all, ok := impl.AllSlope(cars, across)
		expectNoLists(t, "all"+what, all, ok)
		list, ok := impl.SlopeAt(cars, across, 0)
		expectNoList(t, "first list"+what, list, ok)
		number, ok = impl.CountSlopeWalks(cars, across)
		expectNoNumber(t, "count of walks"+what, number, ok)
		all, ok = impl.AllSlopeWalks(cars, across)
		expectNoLists(t, "all walks"+what, all, ok)
		number, ok = impl.MostArea(cars, across)
		expectNoNumber(t, "most area"+what, number, ok)
	}
}

func TestBounds(t *testing.T) {
	for _, c := range []struct {
		cars, across int
		want         []int
	}{
		{3, 5, []int{0, 1, 3}}, {1, 1, []int{0}}, {1, 13, []int{0}}, {6, 1, make([]int, 6)}, {6, 13, []int{0, 2, 4, 6, 8, 10}}, {6, 5, []int{0, 0, 1, 2, 3, 4}}, {6, 11, []int{0, 1, 3, 5, 7, 9}},
		{2, 13, []int{0, 6}}, {4, 5, []int{0, 1, 2, 3}}, {5, 4, []int{0, 0, 1, 2, 3}}, {5, 13, []int{0, 2, 5, 7, 10}}, {5, 12, []int{0, 2, 4, 7, 9}},
	} {
		got, ok := impl.BoundsOf(c.cars, c.across)
		expectList(t, fmt.Sprint("bounds of ", c.cars, " cars and ", c.across), got, ok, c.want)
	}
	eachSlope(func(cars int, across int) {
		got, ok := impl.BoundsOf(cars, across)
		expectList(t, fmt.Sprint("bounds of ", cars, " cars and ", across), got, ok, slopeBoundsByHand(cars, across))
		if across == cars+1 {
			expectList(t, fmt.Sprint("usual bounds of ", cars), got, ok, numbersByHand(cars))
		}
	})
}

func expectSlopeParking(t *testing.T, list []int, across int, want bool) {
	t.Helper()
	is, ok := impl.IsSlopeParking(list, across)
	expectAnswer(t, fmt.Sprint(list, " is one for ", across), is, ok, want)
}

func TestIsSlopeParking(t *testing.T) {
	eachSmallSlope(func(cars int, across int) {
		// The lists are of numbers from -1 on, up to across.
		if math.Pow(float64(across+2), float64(cars)) > 70000 {
			return
		}
		eachList(cars, across+2, func(list []int) {
			for i := range list {
				list[i]--
			}
			expectSlopeParking(t, list, across, isSlopeParkingByHand(list, across))
		})
	})
	eachSlopeList(func(list []int, across int) {
		expectSlopeParking(t, list, across, isSlopeParkingByHand(list, across))
	})
	for _, c := range append(slices.Clone(listsAbove), listsOutside...) {
		expectSlopeParking(t, c.list, c.across, false)
	}
	for _, c := range listsOfNoSlope {
		is, ok := impl.IsSlopeParking(c.list, c.across)
		expectNoAnswer(t, fmt.Sprint(c.list, " is one for ", c.across), is, ok)
	}
}

// The bounds themselves are just met, in any order; one more of any of them is too much.
func TestNumbersNearBounds(t *testing.T) {
	eachSlope(func(cars int, across int) {
		bounds := slopeBoundsByHand(cars, across)
		expectSlopeParking(t, make([]int, cars), across, true)
		eachOrder(min(cars, 4), func(names []int) {
			list := slices.Clone(bounds)
			for i, name := range names {
				list[i] = bounds[name-1]
			}
			expectSlopeParking(t, list, across, true)
			for i := range list {
				more := slices.Clone(list)
				more[i]++
				expectSlopeParking(t, more, across, isSlopeParkingByHand(more, across))
				more[i] = -1
				expectSlopeParking(t, more, across, false)
				more[i] = math.MaxInt
				expectSlopeParking(t, more, across, false)
				more[i] = math.MinInt
				expectSlopeParking(t, more, across, false)
			}
		})
		for i := range bounds {
			alone := make([]int, cars)
			for j := i; j < cars; j++ {
				alone[j] = bounds[i]
			}
			expectSlopeParking(t, alone, across, true)
			for j := i; j < cars; j++ {
				alone[j]++
			}
			expectSlopeParking(t, alone, across, false)
		}
	})
}

func TestCountAndListSlope(t *testing.T) {
	eachSmallSlope(func(cars int, across int) {
		what := fmt.Sprint(" of ", cars, " cars and ", across)
		want := slopeParkingsByHand(cars, across)
		count, ok := impl.CountSlope(cars, across)
		expectNumber(t, "count"+what, count, ok, len(want))
		all, ok := impl.AllSlope(cars, across)
		if len(want) > 700 {
			expectNoLists(t, "all"+what, all, ok)
			return
		}
		expectLists(t, "all"+what, all, ok, want)
	})
	for _, c := range [][3]int{
		{3, 5, 25}, {1, 1, 1}, {1, 13, 1}, {6, 1, 1}, {2, 13, 13}, {3, 13, 169}, {4, 7, 343}, {4, 9, 729}, {4, 13, 2197}, {5, 4, 256}, {5, 13, 28561}, {6, 5, 3125}, {6, 7, 16807}, {6, 11, 161051}, {6, 13, 371293},
	} {
		what := fmt.Sprint(" of ", c[0], " cars and ", c[1])
		count, ok := impl.CountSlope(c[0], c[1])
		expectNumber(t, "count"+what, count, ok, c[2])
		all, ok := impl.AllSlope(c[0], c[1])
		if c[2] > 700 {
			expectNoLists(t, "all"+what, all, ok)
		} else {
			expectNumber(t, "number of all"+what, len(all), ok, c[2])
		}
	}
}

// For across = n + 1, slopes have the parking functions, in the same order.
func TestUsualSlopes(t *testing.T) {
	for n := 1; n <= 6; n++ {
		what := fmt.Sprint(" of ", n, " cars")
		want, _ := impl.CountParking(n)
		count, ok := impl.CountSlope(n, n+1)
		expectNumber(t, "count"+what, count, ok, want)
		want, _ = impl.CountSorted(n)
		count, ok = impl.CountSlopeWalks(n, n+1)
		expectNumber(t, "count of walks"+what, count, ok, want)
		walks, ok := impl.AllSlopeWalks(n, n+1)
		expectLists(t, "walks"+what, walks, ok, sortedParking(n))
		if n <= 4 {
			all, ok := impl.AllSlope(n, n+1)
			expectLists(t, "all"+what, all, ok, parkingFunctions(n))
		}
		for rank, list := range parkingFunctions(n) {
			if n < 5 || rank%37 == 0 {
				got, ok := impl.RankSlope(list, n+1)
				expectNumber(t, fmt.Sprint("rank of ", list), got, ok, rank)
				distance := totalByHand(list)
				area, ok := impl.SlopeArea(list, n+1)
				expectNumber(t, fmt.Sprint("area of ", list), area, ok, distance)
			}
		}
	}
}

func expectSlopeRank(t *testing.T, list []int, across int, want int) {
	t.Helper()
	rank, ok := impl.RankSlope(list, across)
	expectNumber(t, fmt.Sprint("rank of ", list, " for ", across), rank, ok, want)
	got, ok := impl.SlopeAt(len(list), across, want)
	expectList(t, fmt.Sprint("list of ", len(list), " cars and ", across, " at ", want), got, ok, list)
}

func TestSlopeRanks(t *testing.T) {
	eachSmallSlope(func(cars int, across int) {
		for rank, list := range slopeParkingsByHand(cars, across) {
			expectSlopeRank(t, list, across, rank)
		}
	})
	for _, slope := range [][2]int{{5, 9}, {6, 7}} {
		for rank, list := range slopeParkingsByHand(slope[0], slope[1]) {
			if rank%29 == 0 {
				expectSlopeRank(t, list, slope[1], rank)
			}
		}
	}
	for _, slope := range greatSlopes {
		count, _ := impl.CountSlope(slope[0], slope[1])
		for rank := 0; rank+1 < count; rank += count/40 + 1 {
			list, _ := impl.SlopeAt(slope[0], slope[1], rank)
			if !isSlopeParkingByHand(list, slope[1]) {
				t.Errorf("%v has a rank for %d", list, slope[1])
			}
			expectSlopeRank(t, list, slope[1], rank)
			expectSlopeRank(t, nextSlopeByHand(list, slope[1]), slope[1], rank+1)
		}
	}
}

func TestSlopeRankLimits(t *testing.T) {
	eachSlope(func(cars int, across int) {
		count, _ := impl.CountSlope(cars, across)
		expectSlopeRank(t, make([]int, cars), across, 0)
		last := slopeBoundsByHand(cars, across)
		slices.Reverse(last)
		expectSlopeRank(t, last, across, count-1)
		for _, rank := range []int{-1, count, count + 1, math.MaxInt, math.MinInt} {
			got, ok := impl.SlopeAt(cars, across, rank)
			expectNoList(t, fmt.Sprint("list of ", cars, " cars and ", across, " at ", rank), got, ok)
		}
	})
	for _, lists := range [][]slopeList{listsOfNoSlope, listsOutside, listsAbove} {
		for _, c := range lists {
			rank, ok := impl.RankSlope(c.list, c.across)
			expectNoNumber(t, fmt.Sprint("rank of ", c.list, " for ", c.across), rank, ok)
		}
	}
	for _, numbers := range notSlopes {
		for _, rank := range []int{-1, 1, math.MaxInt} {
			got, ok := impl.SlopeAt(numbers[0], numbers[1], rank)
			expectNoList(t, fmt.Sprint("list of ", numbers, " at ", rank), got, ok)
		}
	}
}

func expectTurned(t *testing.T, list []int, across int) {
	t.Helper()
	what := fmt.Sprint(list, " for ", across)
	turns := turnsByHand(list, across)
	if len(turns) != 1 {
		t.Errorf("the class of %s has the turns %v", what, turns)
		return
	}
	got, by, ok := impl.TurnToSlope(list, across)
	expectList(t, "turned "+what, got, ok, turnedListByHand(list, across, turns[0]))
	expectNumber(t, "turn of "+what, by, ok, turns[0])
}

// Promise 8: each class of turned lists has one slope parking function.
func TestEachClassHasOneSlopeParkingFunction(t *testing.T) {
	eachSlopeList(func(list []int, across int) { expectTurned(t, list, across) })
	for _, c := range listsAbove {
		expectTurned(t, c.list, c.across)
	}
	for _, c := range []struct {
		list   []int
		across int
		want   []int
		by     int
	}{
		{[]int{4, 4, 4}, 5, []int{0, 0, 0}, 1}, {[]int{0, 0, 0}, 5, []int{0, 0, 0}, 0}, {[]int{1, 1, 1}, 5, []int{0, 0, 0}, 4}, {[]int{0}, 1, []int{0}, 0}, {[]int{0}, 13, []int{0}, 0}, {[]int{1}, 13, []int{0}, 12}, {[]int{12}, 13, []int{0}, 1},
		{[]int{0, 0, 0, 0, 0, 0}, 1, []int{0, 0, 0, 0, 0, 0}, 0}, {[]int{0, 2, 4, 6, 8, 10}, 13, []int{0, 2, 4, 6, 8, 10}, 0}, {[]int{1, 3, 5, 7, 9, 11}, 13, []int{0, 2, 4, 6, 8, 10}, 12}, {[]int{12, 10, 8, 6, 4, 2}, 13, []int{10, 8, 6, 4, 2, 0}, 11},
	} {
		got, by, ok := impl.TurnToSlope(c.list, c.across)
		expectList(t, fmt.Sprint("turned ", c.list, " for ", c.across), got, ok, c.want)
		expectNumber(t, fmt.Sprint("turn of ", c.list, " for ", c.across), by, ok, c.by)
	}
	for _, c := range append(slices.Clone(listsOfNoSlope), listsOutside...) {
		got, by, ok := impl.TurnToSlope(c.list, c.across)
		expectNoList(t, fmt.Sprint("turned ", c.list, " for ", c.across), got, ok)
		expectNoNumber(t, fmt.Sprint("turn of ", c.list, " for ", c.across), by, ok)
	}
}

// All lists of a class are turned to the same slope parking function, by a number that tells how they were turned.
func TestTurnedListsMeet(t *testing.T) {
	for _, c := range append(slices.Clone(fallingLists), slopeList{[]int{0}, 13}, slopeList{[]int{0, 0, 0, 0, 0, 0}, 13}, slopeList{[]int{0, 0, 1, 3}, 5}) {
		for by := range c.across {
			turned := turnedListByHand(c.list, c.across, c.across-by)
			got, back, ok := impl.TurnToSlope(turned, c.across)
			expectList(t, fmt.Sprint("turned ", turned, " for ", c.across), got, ok, c.list)
			expectNumber(t, fmt.Sprint("turn of ", turned, " for ", c.across), back, ok, by)
		}
	}
}

func TestCountAndListSlopeWalks(t *testing.T) {
	eachSlope(func(cars int, across int) {
		what := fmt.Sprint(" of ", cars, " cars and ", across)
		want := slopeWalksByHand(cars, across)
		count, ok := impl.CountSlopeWalks(cars, across)
		expectNumber(t, "count of walks"+what, count, ok, len(want))
		all, ok := impl.AllSlopeWalks(cars, across)
		if len(want) > 700 {
			expectNoLists(t, "all walks"+what, all, ok)
			return
		}
		expectLists(t, "all walks"+what, all, ok, want)
	})
	for _, c := range [][3]int{
		{3, 5, 7}, {1, 1, 1}, {1, 13, 1}, {6, 1, 1}, {2, 13, 7}, {4, 13, 140}, {5, 12, 364}, {5, 13, 476}, {6, 11, 728}, {6, 13, 1428},
	} {
		count, ok := impl.CountSlopeWalks(c[0], c[1])
		expectNumber(t, fmt.Sprint("count of walks of ", c[0], " cars and ", c[1]), count, ok, c[2])
	}
	all, ok := impl.AllSlopeWalks(3, 5)
	expectLists(t, "walks of 3 cars and 5", all, ok, [][]int{{0, 0, 0}, {0, 0, 1}, {0, 0, 2}, {0, 0, 3}, {0, 1, 1}, {0, 1, 2}, {0, 1, 3}})
}

func expectArea(t *testing.T, list []int, across int, want int) {
	t.Helper()
	area, ok := impl.SlopeArea(list, across)
	expectNumber(t, fmt.Sprint("area of ", list, " for ", across), area, ok, want)
}

func TestAreas(t *testing.T) {
	eachSlopeList(func(list []int, across int) { expectArea(t, list, across, slopeAreaByHand(list, across)) })
	eachSlope(func(cars int, across int) {
		most, ok := impl.MostArea(cars, across)
		expectNumber(t, fmt.Sprint("most area of ", cars, " cars and ", across), most, ok, (cars-1)*(across-1)/2)
		expectArea(t, make([]int, cars), across, most)
		bounds := slopeBoundsByHand(cars, across)
		expectArea(t, bounds, across, 0)
		slices.Reverse(bounds)
		expectArea(t, bounds, across, 0)
		for _, walk := range slopeWalksByHand(cars, across) {
			if area := slopeAreaByHand(walk, across); area < 0 || area > most {
				t.Errorf("%v for %d has the area %d, but the most is %d", walk, across, area, most)
			}
		}
	})
	for _, c := range [][3]int{{3, 5, 4}, {1, 1, 0}, {1, 13, 0}, {6, 1, 0}, {6, 13, 30}, {2, 13, 6}, {5, 13, 24}, {6, 11, 25}} {
		most, ok := impl.MostArea(c[0], c[1])
		expectNumber(t, fmt.Sprint("most area of ", c[0], " cars and ", c[1]), most, ok, c[2])
	}
	for _, c := range append(slices.Clone(listsOfNoSlope), listsOutside...) {
		area, ok := impl.SlopeArea(c.list, c.across)
		expectNoNumber(t, fmt.Sprint("area of ", c.list, " for ", c.across), area, ok)
	}
}

// Lists that are not under the bounds have areas, too, which may be negative.
func TestAreasOfListsAbove(t *testing.T) {
	expectArea(t, []int{4, 4, 4}, 5, -8)
	expectArea(t, []int{1, 1, 1}, 5, 1)
	expectArea(t, []int{4, 0, 0}, 5, 0)
	expectArea(t, []int{12}, 13, -12)
	expectArea(t, slices.Repeat([]int{12}, 6), 13, -42)
	for _, c := range listsAbove {
		expectArea(t, c.list, c.across, slopeAreaByHand(c.list, c.across))
	}
}

func expectTurnedWalk(t *testing.T, walk []int, across int) {
	t.Helper()
	what := fmt.Sprint("walk ", walk, " for ", across)
	got, ok := impl.TurnSlopeWalk(walk, across)
	if across > 6 {
		expectNoList(t, "turned "+what, got, ok)
		return
	}
	want := turnedSlopeByHand(walk, across)
	expectList(t, "turned "+what, got, ok, want)
	expectSlopeParking(t, got, len(walk), true)
	if !slices.IsSorted(got) || slopeAreaByHand(got, len(walk)) != slopeAreaByHand(walk, across) {
		t.Errorf("turned %s: %v falls, or has another area", what, got)
	}
	back, ok := impl.TurnSlopeWalk(got, len(walk))
	expectList(t, "turned back "+what, back, ok, walk)
}

// Promise 8: walks turn to the other end.
func TestWalksTurnToTheOtherEnd(t *testing.T) {
	eachSlopeWalk(func(walk []int, across int) { expectTurnedWalk(t, walk, across) })
	for _, c := range []struct {
		walk   []int
		across int
		want   []int
	}{
		{[]int{0, 1, 3}, 5, []int{0, 0, 1, 1, 2}}, {[]int{0, 0, 0}, 5, []int{0, 0, 0, 0, 0}}, {[]int{0, 0, 1, 1, 2}, 3, []int{0, 1, 3}}, {[]int{0, 0, 2}, 5, []int{0, 0, 0, 1, 1}}, {[]int{0}, 1, []int{0}},
		{[]int{0}, 6, make([]int, 6)}, {make([]int, 6), 1, []int{0}}, {[]int{0, 1, 2, 3, 4}, 6, []int{0, 0, 1, 2, 3, 4}}, {[]int{0, 0, 1, 2, 3, 4}, 5, []int{0, 1, 2, 3, 4}}, {make([]int, 6), 5, make([]int, 5)},
	} {
		got, ok := impl.TurnSlopeWalk(c.walk, c.across)
		expectList(t, fmt.Sprint("turned walk ", c.walk, " for ", c.across), got, ok, c.want)
	}
	for _, c := range []slopeList{{[]int{0}, 7}, {[]int{0}, 13}, {make([]int, 6), 7}, {make([]int, 6), 13}, {[]int{0, 2, 4, 6, 8, 10}, 13}, {[]int{0, 3}, 7}, {[]int{0, 1, 2}, 8}} {
		got, ok := impl.TurnSlopeWalk(c.list, c.across)
		expectNoList(t, fmt.Sprint("turned walk ", c.list, " with too many cars for ", c.across), got, ok)
	}
}

func TestLevels(t *testing.T) {
	eachSlopeWalk(func(walk []int, across int) {
		what := fmt.Sprint("levels of ", walk, " for ", across)
		got, ok := impl.LevelsOfWalk(walk, across)
		expectList(t, what, got, ok, levelsByHand(walk, across))
		sorted := sortedCopy(got)
		if slices.Min(got) < 0 || len(slices.Compact(sorted)) != len(walk) {
			t.Errorf("%s: %v has a number below 0, or equal ones", what, got)
		}
	})
	for _, c := range []struct {
		walk   []int
		across int
		want   []int
	}{
		{[]int{0, 1, 3}, 5, []int{0, 2, 1}}, {[]int{0, 0, 0}, 5, []int{0, 5, 10}}, {[]int{0}, 1, []int{0}}, {[]int{0}, 13, []int{0}}, {make([]int, 6), 1, []int{0, 1, 2, 3, 4, 5}},
		{make([]int, 6), 13, []int{0, 13, 26, 39, 52, 65}}, {[]int{0, 2, 4, 6, 8, 10}, 13, []int{0, 1, 2, 3, 4, 5}}, {[]int{0, 1, 1}, 5, []int{0, 2, 7}},
	} {
		got, ok := impl.LevelsOfWalk(c.walk, c.across)
		expectList(t, fmt.Sprint("levels of ", c.walk, " for ", c.across), got, ok, c.want)
	}
}

func TestNotSlopeWalks(t *testing.T) {
	for _, lists := range [][]slopeList{listsOfNoSlope, listsOutside, listsAbove, fallingLists} {
		for _, c := range lists {
			what := fmt.Sprint(c.list, " for ", c.across)
			turned, ok := impl.TurnSlopeWalk(c.list, c.across)
			expectNoList(t, "turned walk "+what, turned, ok)
			levels, ok := impl.LevelsOfWalk(c.list, c.across)
			expectNoList(t, "levels of "+what, levels, ok)
		}
	}
	for _, c := range fallingLists {
		expectSlopeParking(t, c.list, c.across, true)
	}
	eachSmallSlope(func(cars int, across int) {
		eachList(cars, across, func(list []int) {
			isWalk := slices.IsSorted(list) && isSlopeParkingByHand(list, across)
			levels, ok := impl.LevelsOfWalk(list, across)
			turned, okTurned := impl.TurnSlopeWalk(list, across)
			if ok != isWalk || okTurned != (isWalk && across <= 6) {
				t.Errorf("%v for %d: got the levels %v, %v, and turned %v, %v", list, across, levels, ok, turned, okTurned)
			}
		})
	})
}

func TestUsualOf(t *testing.T) {
	for n := 1; n <= 6; n++ {
		eachList(n, n+1, func(list []int) {
			if n == 6 && sumOf(list)%5 > 0 {
				return
			}
			got, ok := impl.UsualOf(list)
			if isParkingByHand(list) {
				expectList(t, fmt.Sprint("usual of ", list), got, ok, list)
			} else {
				expectNoList(t, fmt.Sprint("usual of ", list), got, ok)
			}
		})
	}
	got, ok := impl.UsualOf([]int{5, 4, 3, 2, 1, 0})
	expectList(t, "usual of 6 cars", got, ok, []int{5, 4, 3, 2, 1, 0})
	others := append(slices.Clone(notParking), nil, []int{}, []int{0, -1}, []int{0, 1, 3}, []int{0, 0, 0, 0, 0, 6}, make([]int, 7), numbersByHand(7), make([]int, 8), numbersByHand(8), make([]int, 1000))
	for _, list := range others {
		got, ok := impl.UsualOf(list)
		expectNoList(t, fmt.Sprint("usual of ", list), got, ok)
	}
}

func expectBeside(t *testing.T, list []int, across int) {
	t.Helper()
	n := len(list)
	what := fmt.Sprint("beside ", list, " for ", across)
	got, ok := impl.BesideSlope(list, across)
	if across+n > 13 {
		expectNoList(t, what, got, ok)
		return
	}
	expectList(t, what, got, ok, besideByHand(list))
	expectSlopeParking(t, got, across+n, isSlopeParkingByHand(list, across))
	expectArea(t, got, across+n, slopeAreaByHand(list, across))
}

func TestBesideSlope(t *testing.T) {
	eachSlopeList(func(list []int, across int) { expectBeside(t, list, across) })
	for _, c := range append(slices.Clone(listsAbove), fallingLists...) {
		expectBeside(t, c.list, c.across)
	}
	for _, c := range []struct {
		list   []int
		across int
		want   []int
	}{
		{[]int{0}, 1, []int{0}}, {[]int{0}, 12, []int{0}}, {[]int{0, 0, 0}, 5, []int{0, 1, 2}}, {[]int{3, 0, 1}, 5, []int{5, 0, 2}}, {[]int{1, 0, 1}, 5, []int{2, 0, 3}}, {[]int{1, 1, 0}, 10, []int{2, 3, 0}},
		{[]int{0, 0, 0, 0, 0, 0}, 1, []int{0, 1, 2, 3, 4, 5}}, {[]int{0, 0, 0, 0, 0, 0}, 7, []int{0, 1, 2, 3, 4, 5}}, {[]int{5, 4, 3, 2, 1, 0}, 7, []int{10, 8, 6, 4, 2, 0}}, {[]int{4, 0, 4, 0, 0}, 8, []int{7, 0, 8, 1, 2}},
		{[]int{4, 4, 4}, 5, []int{4, 5, 6}}, {[]int{11}, 12, []int{11}}, {[]int{6, 6, 6, 6, 6, 6}, 7, []int{6, 7, 8, 9, 10, 11}},
	} {
		got, ok := impl.BesideSlope(c.list, c.across)
		expectList(t, fmt.Sprint("beside ", c.list, " for ", c.across), got, ok, c.want)
	}
	tooFar := []slopeList{{[]int{0}, 13}, {[]int{0, 0}, 13}, {[]int{0, 0, 0}, 11}, {[]int{0, 0, 0, 0}, 11}, {[]int{0, 0, 0, 0, 0}, 9}, {make([]int, 6), 11}, {make([]int, 6), 13}, {[]int{0, 2, 4, 6, 8, 10}, 13}}
	for _, lists := range [][]slopeList{listsOfNoSlope, listsOutside, tooFar} {
		for _, c := range lists {
			got, ok := impl.BesideSlope(c.list, c.across)
			expectNoList(t, fmt.Sprint("beside ", c.list, " for ", c.across), got, ok)
		}
	}
}
