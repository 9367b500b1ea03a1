package tests

import (
	"fmt"
	"math"
	"slices"
	"strings"
	"testing"

	"loop.example/g01115/impl"
)

var notHeights = [][]int{
	{1}, {-1}, {2}, {0, 2}, {0, -1}, {1, 0}, {1, 1}, {1, 2}, {0, 1, 3}, {0, 0, 2}, {0, 1, -1}, {0, 0, 0, 0, 0, 0, 0, 2}, {0, 1, 2, 3, 4, 5, 6, 8},
	{1, 1, 1, 1, 1, 1, 1, 1}, make([]int, 9), {0, 1, 2, 3, 4, 5, 6, 7, 8}, make([]int, 100),
	{math.MaxInt}, {math.MinInt}, {0, math.MaxInt}, {0, math.MinInt}, {math.MaxInt, math.MinInt},
}

// Labels that are missing or met twice, for as many rows, or are no labels at all.
var notLabels = [][]int{
	{1}, {-1}, {0, 0}, {1, 1}, {1, 2}, {0, 2}, {0, -1}, {-1, 0}, {0, 1, 1}, {0, 0, 2}, {1, 2, 3}, {0, 1, 3}, {3, 1, 2},
	{0, 1, 2, 3, 4, 5, 6, 6}, {0, 1, 2, 3, 4, 5, 6, 8}, {1, 2, 3, 4, 5, 6, 7, 8}, {0, 1, 2, 3, 4, 5, 6, 7, 8},
	{math.MaxInt}, {math.MinInt}, {0, math.MaxInt}, {math.MinInt, 1},
}

func walkOf(heights []int, labels []int) impl.Walk {
	return impl.Walk{Heights: heights, Labels: labels}
}

// notWalks has walks with other heights, with other labels, with lists of different lengths, and with labels that do not rise.
func notWalks() []impl.Walk {
	walks := []impl.Walk{
		walkOf(nil, []int{0}), walkOf([]int{0}, nil), walkOf([]int{0, 0}, []int{0}), walkOf([]int{0}, []int{0, 1}),
		walkOf([]int{0, 1}, []int{0}), walkOf([]int{0, 0, 1}, []int{0, 1}),
		walkOf(make([]int, 8), []int{0, 1, 2, 3, 4, 5, 6}), walkOf(make([]int, 7), []int{0, 1, 2, 3, 4, 5, 6, 7}),
		walkOf([]int{0, 1}, []int{1, 0}), walkOf([]int{0, 0, 1}, []int{0, 2, 1}), walkOf([]int{0, 1, 2}, []int{0, 2, 1}), walkOf([]int{0, 1, 0}, []int{2, 1, 0}),
		walkOf([]int{0, 1, 2, 3, 4, 5, 6, 7}, []int{0, 1, 2, 3, 4, 5, 7, 6}), walkOf([]int{0, 1, 0, 1, 0, 1, 0, 1}, []int{6, 7, 4, 5, 2, 3, 1, 0}),
	}
	for _, heights := range notHeights {
		walks = append(walks, walkOf(heights, numbersByHand(len(heights))))
	}
	for _, labels := range notLabels {
		walks = append(walks, walkOf(make([]int, len(labels)), labels))
	}
	return walks
}

func numbersByHand(n int) []int {
	var numbers []int
	for i := range n {
		numbers = append(numbers, i)
	}
	return numbers
}

func areHeightsByHand(heights []int) bool {
	for row, height := range heights {
		if height < 0 || row == 0 && height != 0 || row > 0 && height-heights[row-1] > 1 {
			return false
		}
	}
	return true
}

// heightsByHand lengthens the heights of one row less, which keeps their order.
func heightsByHand(n int) [][]int {
	all := [][]int{nil}
	for row := range n {
		var longer [][]int
		for _, heights := range all {
			most := 0
			if row > 0 {
				most = heights[row-1] + 1
			}
			for height := range most + 1 {
				longer = append(longer, append(slices.Clone(heights), height))
			}
		}
		all = longer
	}
	return all
}

func eachHeights(visit func(heights []int)) {
	for n := range 9 {
		for _, heights := range heightsByHand(n) {
			visit(heights)
		}
	}
}

// isWalkByHand is for heights and as many labels, each once.
func isWalkByHand(w impl.Walk) bool {
	for row := 1; row < len(w.Heights); row++ {
		if w.Heights[row] == w.Heights[row-1]+1 && w.Labels[row-1] > w.Labels[row] {
			return false
		}
	}
	return true
}

func walksByHand(n int) []impl.Walk {
	var walks []impl.Walk
	all := heightsByHand(n)
	eachOrder(n, func(names []int) {
		labels := make([]int, n)
		for row, name := range names {
			labels[row] = name - 1
		}
		for _, heights := range all {
			w := walkOf(slices.Clone(heights), slices.Clone(labels))
			if isWalkByHand(w) {
				walks = append(walks, w)
			}
		}
	})
	return walks
}

// walkOfByHand collects the cars favourite by favourite.
func walkOfByHand(list []int) impl.Walk {
	var w impl.Walk
	for favourite := range list {
		for car, x := range list {
			if x == favourite {
				w.Heights = append(w.Heights, len(w.Heights)-favourite)
				w.Labels = append(w.Labels, car)
			}
		}
	}
	return w
}

// greatParking has parking functions of as many cars as there may be.
func greatParking() [][]int {
	lists := [][]int{{7, 6, 5, 4, 3, 2, 1, 0}, numbersByHand(8), make([]int, 8), {0, 0, 2, 2, 4, 4, 6, 6}}
	for rank := 0; rank < 4782969; rank += 9431 {
		list, _ := impl.ParkingAt(8, rank)
		lists = append(lists, list)
	}
	return lists
}

// eachWalk visits all walks of few rows, and some of the most rows.
func eachWalk(visit func(w impl.Walk)) {
	for n := range 6 {
		for _, w := range walksByHand(n) {
			visit(w)
		}
	}
	for _, list := range greatParking() {
		visit(walkOfByHand(list))
	}
}

// pathByHand has U for each step up and R for each step right.
func pathByHand(heights []int) string {
	path, above := "", 0
	for _, height := range heights {
		for above > height {
			path, above = path+"R", above-1
		}
		path, above = path+"U", above+1
	}
	return path + strings.Repeat("R", above)
}

func heightsOfPath(path string) []int {
	var heights []int
	above := 0
	for _, step := range path {
		if step == 'U' {
			heights = append(heights, above)
			above++
		} else {
			above--
		}
	}
	return heights
}

func turnedByHand(heights []int) []int {
	steps := []byte(pathByHand(heights))
	slices.Reverse(steps)
	for i, step := range steps {
		steps[i] = 'U' + 'R' - step
	}
	return heightsOfPath(string(steps))
}

// bounceByHand goes up to where the path turns right, and right down to the diagonal, again and again.
func bounceByHand(heights []int) int {
	path := pathByHand(heights)
	bounce := 0
	for k := 0; k < len(heights); {
		ups, rights := 0, 0
		for _, step := range path {
			if step == 'U' {
				ups++
			} else if rights++; rights > k {
				break
			}
		}
		k = ups
		bounce += len(heights) - k
	}
	return bounce
}

func pairsByHand(w impl.Walk) [][]int {
	var pairs [][]int
	for i := range w.Labels {
		for j := range w.Labels {
			same := w.Heights[i] == w.Heights[j] && w.Labels[i] < w.Labels[j]
			next := w.Heights[i] == w.Heights[j]+1 && w.Labels[i] > w.Labels[j]
			if i < j && (same || next) {
				pairs = append(pairs, []int{i, j})
			}
		}
	}
	return pairs
}

func readingByHand(w impl.Walk) []int {
	var reading []int
	for height := len(w.Heights); height >= 0; height-- {
		for row := len(w.Heights) - 1; row >= 0; row-- {
			if w.Heights[row] == height {
				reading = append(reading, w.Labels[row])
			}
		}
	}
	return reading
}

func wordsByHand(list []int) string {
	if len(list) == 0 {
		return "-"
	}
	return strings.ReplaceAll(strings.Trim(fmt.Sprint(list), "[]"), " ", ",")
}

func walkTextByHand(w impl.Walk) string {
	return wordsByHand(w.Heights) + ":" + wordsByHand(w.Labels)
}

func expectWalk(t *testing.T, what string, got impl.Walk, ok bool, want impl.Walk) {
	t.Helper()
	expectList(t, what+": heights", got.Heights, ok, want.Heights)
	expectList(t, what+": labels", got.Labels, ok, want.Labels)
}

func expectNoWalk(t *testing.T, what string, got impl.Walk, ok bool) {
	t.Helper()
	expectNoList(t, what+": heights", got.Heights, ok)
	expectNoList(t, what+": labels", got.Labels, ok)
}

func TestAreHeights(t *testing.T) {
	for n := range 6 {
		eachList(n, n+3, func(list []int) {
			for row := range list {
				list[row]--
			}
			if got, want := impl.AreHeights(list), areHeightsByHand(list); got != want {
				t.Errorf("heights %v: got %v, want %v", list, got, want)
			}
		})
	}
	for _, heights := range [][]int{nil, {}, {0}, make([]int, 8), numbersByHand(8), {0, 1, 2, 3, 4, 5, 6, 0}, {0, 1, 1, 2, 0, 0, 1, 2}} {
		if !impl.AreHeights(heights) {
			t.Errorf("%v are heights", heights)
		}
	}
	for _, heights := range notHeights {
		if impl.AreHeights(heights) {
			t.Errorf("%v are no heights", heights)
		}
	}
}

func TestIsWalk(t *testing.T) {
	for n := range 4 {
		walks := map[string]bool{}
		for _, w := range walksByHand(n) {
			walks[fmt.Sprint(w)] = true
		}
		// The lists are of numbers from -1 on.
		eachList(2*n, n+2, func(list []int) {
			for i := range list {
				list[i]--
			}
			w := walkOf(list[:n], list[n:])
			if got, want := impl.IsWalk(w), walks[fmt.Sprint(w)]; got != want {
				t.Errorf("walk %v: got %v, want %v", w, got, want)
			}
		})
	}
	eachWalk(func(w impl.Walk) {
		if !impl.IsWalk(w) {
			t.Errorf("%v is a walk", w)
		}
	})
	for _, w := range notWalks() {
		if impl.IsWalk(w) {
			t.Errorf("%v is no walk", w)
		}
	}
}

func TestWalkExamples(t *testing.T) {
	w, ok := impl.WalkOfParking([]int{1, 0, 1})
	expectWalk(t, "walk of 1, 0, 1", w, ok, walkOf([]int{0, 0, 1}, []int{1, 0, 2}))
	area, ok := impl.AreaOf(w)
	expectNumber(t, "area of the walk of 1, 0, 1", area, ok, 1)
	pairs, ok := impl.PairsOf(w)
	expectLists(t, "pairs of the walk of 1, 0, 1", pairs, ok, nil)
	reading, ok := impl.ReadingOf(w)
	expectList(t, "reading of the walk of 1, 0, 1", reading, ok, []int{2, 0, 1})
	// Both kinds of pairs, and rows that are none although their heights or their labels are right.
	w = walkOf([]int{0, 1, 1, 0, 0}, []int{1, 4, 3, 2, 0})
	pairs, ok = impl.PairsOf(w)
	expectLists(t, fmt.Sprint("pairs of ", w), pairs, ok, [][]int{{0, 3}, {1, 3}, {1, 4}, {2, 3}, {2, 4}})
	reading, ok = impl.ReadingOf(w)
	expectList(t, fmt.Sprint("reading of ", w), reading, ok, []int{3, 4, 0, 2, 1})
	touches, ok := impl.TouchesOf(w)
	expectList(t, fmt.Sprint("touches of ", w), touches, ok, []int{3, 4})
}

func TestParkingFunctionsAreWalks(t *testing.T) {
	lists := greatParking()
	for n := range 6 {
		found := map[string]bool{}
		for _, list := range parkingFunctions(n) {
			w, _ := impl.WalkOfParking(list)
			found[fmt.Sprint(w)] = true
			lists = append(lists, list)
		}
		if want := len(walksByHand(n)); len(found) != want {
			t.Errorf("parking functions of %d cars have %d walks, want %d", n, len(found), want)
		}
	}
	for _, list := range lists {
		what := fmt.Sprint("walk of ", list)
		w, ok := impl.WalkOfParking(list)
		expectWalk(t, what, w, ok, walkOfByHand(list))
		back, ok := impl.ParkingOfWalk(w)
		expectList(t, what+" turned back", back, ok, list)
		area, ok := impl.AreaOf(w)
		expectNumber(t, what+": area", area, ok, totalByHand(list))
		cuts, _ := impl.CutsOf(list)
		touches, ok := impl.TouchesOf(w)
		expectList(t, what+": touches", touches, ok, cuts)
	}
	for _, list := range notParking {
		w, ok := impl.WalkOfParking(list)
		expectNoWalk(t, fmt.Sprint("walk of ", list), w, ok)
	}
}

func TestWalksAreParkingFunctions(t *testing.T) {
	eachWalk(func(w impl.Walk) {
		list, ok := impl.ParkingOfWalk(w)
		if !ok || !isParkingByHand(list) {
			t.Errorf("parking function of %v: got %v, %v", w, list, ok)
		}
		back, ok := impl.WalkOfParking(list)
		expectWalk(t, fmt.Sprint("walk of ", list), back, ok, w)
	})
}

func TestQuestionsOfWalks(t *testing.T) {
	eachWalk(func(w impl.Walk) {
		what := fmt.Sprint(" of ", w)
		area, ok := impl.AreaOf(w)
		expectNumber(t, "area"+what, area, ok, sumOf(w.Heights))
		want := pairsByHand(w)
		pairs, ok := impl.PairsOf(w)
		expectLists(t, "pairs"+what, pairs, ok, want)
		count, ok := impl.PairCount(w)
		expectNumber(t, "number of pairs"+what, count, ok, len(want))
		reading, ok := impl.ReadingOf(w)
		expectList(t, "reading"+what, reading, ok, readingByHand(w))
		var ground []int
		for row, height := range w.Heights {
			if height == 0 && row != 0 {
				ground = append(ground, row)
			}
		}
		touches, ok := impl.TouchesOf(w)
		expectList(t, "touches"+what, touches, ok, ground)
	})
}

func TestWalkWithoutRows(t *testing.T) {
	for _, w := range []impl.Walk{{}, walkOf([]int{}, nil), walkOf(nil, []int{})} {
		if !impl.IsWalk(w) {
			t.Errorf("%v is a walk", w)
		}
		list, ok := impl.ParkingOfWalk(w)
		expectList(t, "parking function of no rows", list, ok, nil)
		area, ok := impl.AreaOf(w)
		expectNumber(t, "area of no rows", area, ok, 0)
		pairs, ok := impl.PairsOf(w)
		expectLists(t, "pairs of no rows", pairs, ok, nil)
		count, ok := impl.PairCount(w)
		expectNumber(t, "number of pairs of no rows", count, ok, 0)
		reading, ok := impl.ReadingOf(w)
		expectList(t, "reading of no rows", reading, ok, nil)
		touches, ok := impl.TouchesOf(w)
		expectList(t, "touches of no rows", touches, ok, nil)
		if text, ok := impl.WalkText(w); !ok || text != "-:-" {
			t.Errorf("text of no rows: got %q, %v", text, ok)
		}
	}
	w, ok := impl.WalkOfParking(nil)
	expectWalk(t, "walk of no cars", w, ok, impl.Walk{})
	w, ok = impl.FirstLabels(nil)
	expectWalk(t, "first labels of no rows", w, ok, impl.Walk{})
	bounce, ok := impl.BounceOf(nil)
	expectNumber(t, "bounce of no rows", bounce, ok, 0)
	labels, ok := impl.CountLabels(nil)
	expectNumber(t, "labels of no rows", labels, ok, 1)
	turned, ok := impl.TurnHeights(nil)
	expectList(t, "no rows turned", turned, ok, nil)
	spread, ok := impl.SpreadOfWalks(0)
	expectLists(t, "spread of walks of no rows", spread, ok, [][]int{{1}})
}

func TestNotWalks(t *testing.T) {
	for _, w := range notWalks() {
		what := fmt.Sprint(" of ", w)
		list, ok := impl.ParkingOfWalk(w)
		expectNoList(t, "parking function"+what, list, ok)
		area, ok := impl.AreaOf(w)
		expectNoNumber(t, "area"+what, area, ok)
		pairs, ok := impl.PairsOf(w)
		expectNoLists(t, "pairs"+what, pairs, ok)
		count, ok := impl.PairCount(w)
		expectNoNumber(t, "number of pairs"+what, count, ok)
		reading, ok := impl.ReadingOf(w)
		expectNoList(t, "reading"+what, reading, ok)
		touches, ok := impl.TouchesOf(w)
		expectNoList(t, "touches"+what, touches, ok)
		if text, ok := impl.WalkText(w); ok || text != "" {
			t.Errorf("text%s: got %q, %v", what, text, ok)
		}
	}
}

func TestNotHeights(t *testing.T) {
	for _, heights := range notHeights {
		what := fmt.Sprint(" of ", heights)
		bounce, ok := impl.BounceOf(heights)
		expectNoNumber(t, "bounce"+what, bounce, ok)
		count, ok := impl.CountLabels(heights)
		expectNoNumber(t, "labels"+what, count, ok)
		w, ok := impl.FirstLabels(heights)
		expectNoWalk(t, "first labels"+what, w, ok)
		turned, ok := impl.TurnHeights(heights)
		expectNoList(t, "turned heights"+what, turned, ok)
	}
}

func TestBounce(t *testing.T) {
	eachHeights(func(heights []int) {
		got, ok := impl.BounceOf(heights)
		expectNumber(t, fmt.Sprint("bounce of ", heights), got, ok, bounceByHand(heights))
	})
	for _, c := range []struct {
		heights []int
		want    int
	}{
		{[]int{0}, 0}, {[]int{0, 0, 0}, 3}, {[]int{0, 1, 2}, 0}, {[]int{0, 1, 0}, 1}, {[]int{0, 0, 1}, 2}, {[]int{0, 1, 1}, 1},
		{make([]int, 8), 28}, {numbersByHand(8), 0}, {[]int{0, 1, 0, 1, 0, 1, 0, 1}, 12},
	} {
		got, ok := impl.BounceOf(c.heights)
		expectNumber(t, fmt.Sprint("bounce of ", c.heights), got, ok, c.want)
	}
}

func TestCountAndListHeights(t *testing.T) {
	for n, want := range []int{1, 1, 2, 5, 14, 42, 132, 429, 1430} {
		got, ok := impl.CountHeights(n)
		expectNumber(t, fmt.Sprint("heights of ", n), got, ok, want)
		expectNumber(t, fmt.Sprint("heights by hand of ", n), got, ok, len(heightsByHand(n)))
	}
	for _, n := range notCarNumbers {
		got, ok := impl.CountHeights(n)
		expectNoNumber(t, fmt.Sprint("heights of ", n), got, ok)
	}
	for n := range 7 {
		got, ok := impl.AllHeights(n)
		expectLists(t, fmt.Sprint("all heights of ", n), got, ok, heightsByHand(n))
		if !slices.IsSortedFunc(got, slices.Compare) {
			t.Errorf("all heights of %d are not in order: %v", n, got)
		}
	}
	for _, n := range append([]int{7, 8}, notCarNumbers...) {
		got, ok := impl.AllHeights(n)
		expectNoLists(t, fmt.Sprint("all heights of ", n), got, ok)
	}
}

func TestLabels(t *testing.T) {
	for n := range 6 {
		counts := map[string]int{}
		for _, w := range walksByHand(n) {
			counts[fmt.Sprint(w.Heights)]++
		}
		for _, heights := range heightsByHand(n) {
			got, ok := impl.CountLabels(heights)
			expectNumber(t, fmt.Sprint("labels of ", heights), got, ok, counts[fmt.Sprint(heights)])
		}
	}
	for n := range 9 {
		sum := 0
		for _, heights := range heightsByHand(n) {
			count, _ := impl.CountLabels(heights)
			sum += count
		}
		want, ok := impl.CountParking(n)
		expectNumber(t, fmt.Sprint("walks of all heights of ", n), sum, ok, want)
	}
	for _, c := range []struct {
		heights []int
		want    int
	}{
		{[]int{0}, 1}, {[]int{0, 1, 0}, 3}, {[]int{0, 1, 1}, 3}, {make([]int, 8), 40320}, {numbersByHand(8), 1},
		{[]int{0, 1, 0, 1, 0, 1, 0, 1}, 2520}, {[]int{0, 1, 2, 2, 3, 1, 2, 3}, 560}, {[]int{0, 1, 2, 3, 3, 3, 3, 3}, 1680},
	} {
		got, ok := impl.CountLabels(c.heights)
		expectNumber(t, fmt.Sprint("labels of ", c.heights), got, ok, c.want)
	}
	eachHeights(func(heights []int) {
		got, ok := impl.FirstLabels(heights)
		expectWalk(t, fmt.Sprint("first labels of ", heights), got, ok, walkOf(heights, numbersByHand(len(heights))))
	})
}

func exchangedTable(table [][]int) [][]int {
	exchanged := make([][]int, len(table))
	for _, row := range table {
		for column, number := range row {
			exchanged[column] = append(exchanged[column], number)
		}
	}
	return exchanged
}

func emptyTable(n int) [][]int {
	size := n*(n-1)/2 + 1
	table := make([][]int, size)
	for row := range table {
		table[row] = make([]int, size)
	}
	return table
}

func TestAreaIsSpreadAsPairs(t *testing.T) {
	for n := range 5 {
		byHand := emptyTable(n)
		for _, w := range walksByHand(n) {
			byHand[sumOf(w.Heights)][len(pairsByHand(w))]++
		}
		what := fmt.Sprint("spread of walks of ", n)
		table, ok := impl.SpreadOfWalks(n)
		expectLists(t, what, table, ok, byHand)
		expectLists(t, what+" exchanged", exchangedTable(table), ok, table)
		var areas []int
		for _, row := range table {
			areas = append(areas, sumOf(row))
		}
		distances, ok := impl.CountByDistance(n)
		expectList(t, what+" as distances", areas, ok, distances)
	}
	for n, want := range map[int][][]int{
		0: {{1}}, 1: {{1}}, 2: {{1, 1}, {1, 0}}, 3: {{1, 2, 2, 1}, {2, 3, 1, 0}, {2, 1, 0, 0}, {1, 0, 0, 0}},
	} {
		table, ok := impl.SpreadOfWalks(n)
		expectLists(t, fmt.Sprint("spread of walks of ", n), table, ok, want)
	}
	for _, n := range append([]int{5, 6, 7, 8}, notCarNumbers...) {
		table, ok := impl.SpreadOfWalks(n)
		expectNoLists(t, fmt.Sprint("spread of walks of ", n), table, ok)
	}
}

func TestAreaIsSpreadAsBounce(t *testing.T) {
	for n := range 9 {
		table := emptyTable(n)
		for _, heights := range heightsByHand(n) {
			w, _ := impl.FirstLabels(heights)
			area, _ := impl.AreaOf(w)
			bounce, _ := impl.BounceOf(heights)
			table[area][bounce]++
		}
		expectLists(t, fmt.Sprint("area and bounce of heights of ", n), exchangedTable(table), true, table)
	}
}

func TestTurnHeights(t *testing.T) {
	eachHeights(func(heights []int) {
		what := fmt.Sprint(heights, " turned")
		got, ok := impl.TurnHeights(heights)
		expectList(t, what, got, ok, turnedByHand(heights))
		if !areHeightsByHand(got) || sumOf(got) != sumOf(heights) {
			t.Errorf("%s: %v are no heights with this area", what, got)
		}
		back, ok := impl.TurnHeights(got)
		expectList(t, what+" twice", back, ok, heights)
	})
	for _, c := range []struct{ heights, want []int }{
		{[]int{0}, []int{0}},
		{[]int{0, 0, 1}, []int{0, 1, 0}},
		{[]int{0, 1, 1}, []int{0, 1, 1}},
		{make([]int, 8), make([]int, 8)},
		{numbersByHand(8), numbersByHand(8)},
		{[]int{0, 1, 2, 3, 4, 5, 6, 0}, []int{0, 0, 1, 2, 3, 4, 5, 6}},
		{[]int{0, 1, 2, 2, 0}, []int{0, 0, 1, 2, 2}},
		{[]int{0, 1, 2, 1, 1}, []int{0, 1, 1, 1, 2}},
	} {
		got, ok := impl.TurnHeights(c.heights)
		expectList(t, fmt.Sprint(c.heights, " turned"), got, ok, c.want)
	}
}

func TestWalkTexts(t *testing.T) {
	eachWalk(func(w impl.Walk) {
		want := walkTextByHand(w)
		text, ok := impl.WalkText(w)
		if !ok || text != want {
			t.Errorf("text of %v: got %q, %v, want %q", w, text, ok, want)
		}
		got, ok := impl.ParseWalk(want)
		expectWalk(t, fmt.Sprintf("parse %q", want), got, ok, w)
	})
	for _, w := range notWalks() {
		got, ok := impl.ParseWalk(walkTextByHand(w))
		expectNoWalk(t, fmt.Sprintf("parse %q", walkTextByHand(w)), got, ok)
	}
	for _, s := range []string{
		"", "-", ":", "--", "-:", ":-", "-:-:", ":-:-", "-:-:-", "-:-,-", "-,-:-", "-;-", "- :-", "-: -", " -:-", "-:- ", "-:-\n", "-:0", "0:-",
		"0", "0:", ":0", "0:0:", ":0:0", "0:0:0", "0;0", "0,0", "0 0", "0 :0", "0: 0", " 0:0", "0:0 ", "0:0\n", "00:0", "0:00", "+0:0", "0:+0", "-0:0", "0:-0",
		"0,:0", "0:0,", ",0:0", "0:,0", "0,0:0,1,", "0,,0:0,1", "0,0:0,,1", "0, 0:0,1", "0,0:0 1", "0 0:0,1", "0,01:0,1", "0,1:0,01", "0,0:0,+1",
		"a:0", "0:a", "0.0:0", "0x0:0", "0_0:0", "\u0660:0", "0:\u0660", "\xff:0", "0\x00:0", "0:9223372036854775808", "9223372036854775808:0",
		strings.Repeat("0", 1000), strings.Repeat("0:", 1000), strings.Repeat(":", 1000), strings.Repeat("-", 1000),
		strings.Repeat("0,", 999) + "0:" + strings.Repeat("0,", 999) + "0",
	} {
		got, ok := impl.ParseWalk(s)
		expectNoWalk(t, fmt.Sprintf("parse %q", s), got, ok)
	}
}
