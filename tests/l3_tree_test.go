package tests

import (
	"fmt"
	"math"
	"slices"
	"strings"
	"testing"

	"loop.example/g01115/impl"
)

// Lists that are no trees: numbers that are no nodes, parents that lead round, and too many nodes.
var notTrees = [][]int{
	{1}, {-1}, {2}, {0, 2}, {2, 1}, {0, 3}, {3, 0}, {-1, 0}, {0, -1}, {0, 3, 2}, {2, 3, 1}, {1, 1, 1}, {0, 2, 2}, {2, 1, 0},
	{0, 0, 0, 0, 0, 0, 0, 8}, {0, 0, 0, 0, 0, 0, 0, 9}, {0, 0, 0, 0, 0, 0, 8, 7}, {2, 3, 4, 5, 6, 7, 8, 1},
	make([]int, 9), {0, 1, 2, 3, 4, 5, 6, 7, 8}, make([]int, 100), {math.MaxInt}, {math.MinInt}, {0, math.MaxInt}, {math.MinInt, 0},
}

// Trees of as many nodes as there may be: a path either way, all below the root, all below the last node, and two others.
var greatTrees = [][]int{
	{0, 1, 2, 3, 4, 5, 6, 7}, {2, 3, 4, 5, 6, 7, 8, 0}, make([]int, 8), {8, 8, 8, 8, 8, 8, 8, 0},
	{3, 1, 0, 3, 8, 1, 8, 0}, {0, 0, 1, 1, 2, 2, 4, 4},
}

// reachedByHand marks from the given one downwards, round after round; itself is not marked unless parents lead round.
func reachedByHand(parents []int, from int) []bool {
	reached := make([]bool, len(parents)+1)
	for range parents {
		for i, parent := range parents {
			if parent == from || reached[parent] {
				reached[i+1] = true
			}
		}
	}
	return reached
}

// isTreeByHand is for lists of n numbers in 0..n.
func isTreeByHand(parents []int) bool {
	return !slices.Contains(reachedByHand(parents, 0)[1:], false)
}

func treesByHand(n int) [][]int {
	var all [][]int
	eachList(n, n+1, func(list []int) {
		if isTreeByHand(list) {
			all = append(all, list)
		}
	})
	return all
}

// eachTree visits all trees of few nodes, and some of the most nodes.
func eachTree(visit func(parents []int)) {
	for n := range 6 {
		for _, parents := range treesByHand(n) {
			visit(parents)
		}
	}
	for _, parents := range greatTrees {
		visit(parents)
	}
}

// wordByHand keeps who is left, and looks for the greatest that is nobody's parent among them.
func wordByHand(parents []int) []int {
	left := make([]bool, len(parents)+1)
	for i := range left {
		left[i] = true
	}
	isParent := func(node int) bool {
		for i, parent := range parents {
			if left[i+1] && parent == node {
				return true
			}
		}
		return false
	}
	var word []int
	for len(word) < len(parents)-1 {
		leaf := len(parents)
		for !left[leaf] || isParent(leaf) {
			leaf--
		}
		left[leaf] = false
		word = append(word, parents[leaf-1])
	}
	return word
}

// orderByHand puts level behind level.
func orderByHand(parents []int) []int {
	order, level := []int{0}, []int{0}
	for len(level) > 0 {
		var next []int
		for _, higher := range level {
			for node := 1; node <= len(parents); node++ {
				if parents[node-1] == higher {
					next = append(next, node)
				}
			}
		}
		order, level = append(order, next...), next
	}
	return order
}

func inversionsByHand(parents []int) [][]int {
	var pairs [][]int
	for i := 1; i <= len(parents); i++ {
		for j := i + 1; j <= len(parents); j++ {
			if reachedByHand(parents, j)[i] {
				pairs = append(pairs, []int{i, j})
			}
		}
	}
	return pairs
}

func eachOrder(n int, visit func(names []int)) {
	eachList(n, n, func(list []int) {
		names := make([]int, n)
		for i, x := range list {
			names[i] = x + 1
		}
		sorted := sortedCopy(names)
		if len(slices.Compact(sorted)) == n {
			visit(names)
		}
	})
}

func TestIsTree(t *testing.T) {
	for n := range 6 {
		eachList(n, n+1, func(list []int) {
			if got, want := impl.IsTree(list), isTreeByHand(list); got != want {
				t.Errorf("tree %v: got %v, want %v", list, got, want)
			}
		})
	}
	for _, parents := range append(greatTrees, nil, []int{}, []int{0}) {
		if !impl.IsTree(parents) {
			t.Errorf("%v is a tree", parents)
		}
	}
	for _, parents := range notTrees {
		if impl.IsTree(parents) {
			t.Errorf("%v is no tree", parents)
		}
	}
}

func TestTreeExamples(t *testing.T) {
	word, ok := impl.PruferOf([]int{0, 1, 1})
	expectList(t, "word of 0, 1, 1", word, ok, []int{1, 1})
	tree, ok := impl.TreeOfParking([]int{0, 0, 1})
	expectList(t, "tree of 0, 0, 1", tree, ok, []int{0, 0, 1})
	pairs, ok := impl.InversionPairs([]int{3, 1, 0})
	expectLists(t, "inversions of 3, 1, 0", pairs, ok, [][]int{{1, 3}, {2, 3}})
	below, ok := impl.BelowCounts([]int{0, 1, 1})
	expectList(t, "below counts of 0, 1, 1", below, ok, []int{3, 2, 0, 0})
}

func TestTreesAreWords(t *testing.T) {
	eachTree(func(parents []int) {
		word, ok := impl.PruferOf(parents)
		if len(parents) == 0 {
			expectNoList(t, "word of a tree without nodes", word, ok)
			return
		}
		expectList(t, fmt.Sprint("word of ", parents), word, ok, wordByHand(parents))
		tree, ok := impl.TreeOfPrufer(word)
		expectList(t, fmt.Sprint("tree of the word ", word), tree, ok, parents)
	})
	for _, parents := range notTrees {
		word, ok := impl.PruferOf(parents)
		expectNoList(t, fmt.Sprint("word of ", parents), word, ok)
	}
}

func TestWordsAreTrees(t *testing.T) {
	expectWord := func(word []int) {
		tree, ok := impl.TreeOfPrufer(word)
		if !ok || len(tree) != len(word)+1 || !impl.IsTree(tree) {
			t.Errorf("tree of the word %v: got %v, %v", word, tree, ok)
			return
		}
		back, ok := impl.PruferOf(tree)
		expectList(t, fmt.Sprint("word of ", tree), back, ok, word)
	}
	for length := range 5 {
		eachList(length, length+2, expectWord)
	}
	for x := range 9 {
		for y := range 9 {
			expectWord([]int{x, y, y, x, x, x, y})
			expectWord([]int{x, 8, 0, y, 4, 8, x})
			expectWord([]int{8, 7, y, 7, x, y, 0})
		}
	}
	for _, c := range []struct{ word, want []int }{
		{nil, []int{0}},
		{[]int{0}, []int{0, 0}},
		{[]int{1}, []int{0, 1}},
		{[]int{2}, []int{2, 0}},
		{make([]int, 7), make([]int, 8)},
		{[]int{8, 8, 8, 8, 8, 8, 8}, []int{8, 8, 8, 8, 8, 8, 8, 0}},
		{[]int{2, 3, 4, 5, 6, 7, 8}, []int{2, 3, 4, 5, 6, 7, 8, 0}},
		{[]int{7, 6, 5, 4, 3, 2, 1}, []int{0, 1, 2, 3, 4, 5, 6, 7}},
	} {
		got, ok := impl.TreeOfPrufer(c.word)
		expectList(t, fmt.Sprint("tree of the word ", c.word), got, ok, c.want)
	}
	for _, word := range [][]int{
		{-1}, {3}, {0, 4}, {4, 0}, {0, -1}, {0, 0, 0, 0, 0, 0, 9}, {9, 0, 0, 0, 0, 0, 0}, make([]int, 8), make([]int, 9),
		{9, 9, 9, 9, 9, 9, 9, 9}, make([]int, 100), {math.MaxInt}, {math.MinInt},
	} {
		got, ok := impl.TreeOfPrufer(word)
		expectNoList(t, fmt.Sprint("tree of the word ", word), got, ok)
	}
}

func TestCountTrees(t *testing.T) {
	for n, want := range []int{1, 1, 3, 16, 125, 1296, 16807, 262144, 4782969} {
		got, ok := impl.CountTrees(n)
		expectNumber(t, fmt.Sprint("trees of ", n), got, ok, want)
	}
	for n := range 7 {
		got, ok := impl.CountTrees(n)
		expectNumber(t, fmt.Sprint("listed trees of ", n), got, ok, len(treesByHand(n)))
	}
	for _, n := range notCarNumbers {
		got, ok := impl.CountTrees(n)
		expectNoNumber(t, fmt.Sprint("trees of ", n), got, ok)
	}
}

func TestAllTrees(t *testing.T) {
	for n := 1; n <= 5; n++ {
		want := treesByHand(n)
		slices.SortFunc(want, func(a []int, b []int) int { return slices.Compare(wordByHand(a), wordByHand(b)) })
		got, ok := impl.AllTrees(n)
		expectLists(t, fmt.Sprint("trees of ", n), got, ok, want)
	}
	for _, n := range []int{0, -1, 6, 7, 8, 9, math.MaxInt, math.MinInt} {
		got, ok := impl.AllTrees(n)
		expectNoLists(t, fmt.Sprint("trees of ", n), got, ok)
	}
}

func TestBreadthOrder(t *testing.T) {
	eachTree(func(parents []int) {
		got, ok := impl.BreadthOrder(parents)
		expectList(t, fmt.Sprint("breadth order of ", parents), got, ok, orderByHand(parents))
	})
	for _, c := range []struct{ parents, want []int }{
		{nil, []int{0}},
		{[]int{3, 1, 0}, []int{0, 3, 1, 2}},
		{[]int{4, 3, 0, 0}, []int{0, 3, 4, 2, 1}},
		{[]int{3, 1, 0, 3, 8, 1, 8, 0}, []int{0, 3, 8, 1, 4, 5, 7, 2, 6}},
	} {
		got, ok := impl.BreadthOrder(c.parents)
		expectList(t, fmt.Sprint("breadth order of ", c.parents), got, ok, c.want)
	}
	for _, parents := range notTrees {
		got, ok := impl.BreadthOrder(parents)
		expectNoList(t, fmt.Sprint("breadth order of ", parents), got, ok)
	}
}

// expectTreeOfParking holds a parking function against the definition of its tree, and turns it back.
func expectTreeOfParking(t *testing.T, list []int) []int {
	t.Helper()
	parents, ok := impl.TreeOfParking(list)
	if !ok || len(parents) != len(list) || !isTreeByHand(parents) {
		t.Errorf("tree of %v: got %v, %v", list, parents, ok)
		return nil
	}
	order := orderByHand(parents)
	for car, favourite := range list {
		if parents[car] != order[favourite] {
			t.Errorf("tree of %v: %v, but its breadth order is %v", list, parents, order)
		}
	}
	back, ok := impl.ParkingOfTree(parents)
	expectList(t, fmt.Sprint("parking function of ", parents), back, ok, list)
	return parents
}

func TestParkingFunctionsAreTrees(t *testing.T) {
	for n := range 6 {
		found := map[string]bool{}
		for _, list := range parkingFunctions(n) {
			found[fmt.Sprint(expectTreeOfParking(t, list))] = true
		}
		if want := len(treesByHand(n)); len(found) != want {
			t.Errorf("parking functions of %d cars have %d trees, want %d", n, len(found), want)
		}
	}
	for rank := 0; rank < 4782969; rank += 4657 {
		list, _ := impl.ParkingAt(8, rank)
		expectTreeOfParking(t, list)
	}
	expectTreeOfParking(t, []int{7, 6, 5, 4, 3, 2, 1, 0})
	tree, ok := impl.TreeOfParking([]int{1, 0, 1})
	expectList(t, "tree of 1, 0, 1", tree, ok, []int{2, 0, 2})
	for _, list := range notParking {
		tree, ok := impl.TreeOfParking(list)
		expectNoList(t, fmt.Sprint("tree of ", list), tree, ok)
	}
}

func TestTreesAreParkingFunctions(t *testing.T) {
	eachTree(func(parents []int) {
		list, ok := impl.ParkingOfTree(parents)
		if !ok || !isParkingByHand(list) {
			t.Errorf("parking function of %v: got %v, %v", parents, list, ok)
		}
		tree, ok := impl.TreeOfParking(list)
		expectList(t, fmt.Sprint("tree of ", list), tree, ok, parents)
	})
	for _, parents := range notTrees {
		list, ok := impl.ParkingOfTree(parents)
		expectNoList(t, fmt.Sprint("parking function of ", parents), list, ok)
	}
}

func TestNeighboursOfTree(t *testing.T) {
	eachTree(func(parents []int) {
		degrees := make([]int, len(parents)+1)
		var leaves []int
		for node := range degrees {
			for _, parent := range parents {
				if parent == node {
					degrees[node]++
				}
			}
			if node > 0 {
				degrees[node]++
			}
			if node > 0 && degrees[node] == 1 {
				leaves = append(leaves, node)
			}
		}
		got, ok := impl.DegreesOf(parents)
		expectList(t, fmt.Sprint("degrees of ", parents), got, ok, degrees)
		got, ok = impl.LeavesOf(parents)
		expectList(t, fmt.Sprint("leaves of ", parents), got, ok, leaves)
	})
	got, ok := impl.LeavesOf([]int{0, 1, 2})
	expectList(t, "leaves of a path, whose root has one neighbour, too", got, ok, []int{3})
	got, ok = impl.DegreesOf(nil)
	expectList(t, "degrees of a tree without nodes", got, ok, []int{0})
	got, ok = impl.LeavesOf(nil)
	expectList(t, "leaves of a tree without nodes", got, ok, nil)
	for _, parents := range notTrees {
		got, ok := impl.DegreesOf(parents)
		expectNoList(t, fmt.Sprint("degrees of ", parents), got, ok)
		got, ok = impl.LeavesOf(parents)
		expectNoList(t, fmt.Sprint("leaves of ", parents), got, ok)
	}
}

func TestAboveAndBelow(t *testing.T) {
	eachTree(func(parents []int) {
		below := make([]int, len(parents)+1)
		depths := make([]int, len(parents))
		for higher := range below {
			for node, isBelow := range reachedByHand(parents, higher) {
				if isBelow {
					below[higher]++
					depths[node-1]++
				}
			}
		}
		got, ok := impl.BelowCounts(parents)
		expectList(t, fmt.Sprint("below counts of ", parents), got, ok, below)
		got, ok = impl.DepthsOf(parents)
		expectList(t, fmt.Sprint("depths of ", parents), got, ok, depths)
	})
	got, ok := impl.BelowCounts(nil)
	expectList(t, "below counts of a tree without nodes", got, ok, []int{0})
	got, ok = impl.DepthsOf(nil)
	expectList(t, "depths of a tree without nodes", got, ok, nil)
	got, ok = impl.BelowCounts([]int{0, 1, 2, 3, 4, 5, 6, 7})
	expectList(t, "below counts of a path", got, ok, []int{8, 7, 6, 5, 4, 3, 2, 1, 0})
	got, ok = impl.DepthsOf([]int{2, 3, 4, 5, 6, 7, 8, 0})
	expectList(t, "depths of a path", got, ok, []int{8, 7, 6, 5, 4, 3, 2, 1})
	for _, parents := range notTrees {
		got, ok := impl.BelowCounts(parents)
		expectNoList(t, fmt.Sprint("below counts of ", parents), got, ok)
		got, ok = impl.DepthsOf(parents)
		expectNoList(t, fmt.Sprint("depths of ", parents), got, ok)
	}
}

func TestInversions(t *testing.T) {
	eachTree(func(parents []int) {
		want := inversionsByHand(parents)
		pairs, ok := impl.InversionPairs(parents)
		expectLists(t, fmt.Sprint("inversions of ", parents), pairs, ok, want)
		count, ok := impl.InversionsOf(parents)
		expectNumber(t, fmt.Sprint("number of inversions of ", parents), count, ok, len(want))
	})
	for _, c := range []struct {
		parents []int
		want    int
	}{
		{nil, 0}, {[]int{0}, 0}, {make([]int, 8), 0}, {[]int{0, 1, 2, 3, 4, 5, 6, 7}, 0}, {[]int{2, 3, 4, 5, 6, 7, 8, 0}, 28}, {[]int{8, 8, 8, 8, 8, 8, 8, 0}, 7},
	} {
		got, ok := impl.InversionsOf(c.parents)
		expectNumber(t, fmt.Sprint("number of inversions of ", c.parents), got, ok, c.want)
	}
	for _, parents := range notTrees {
		pairs, ok := impl.InversionPairs(parents)
		expectNoLists(t, fmt.Sprint("inversions of ", parents), pairs, ok)
		count, ok := impl.InversionsOf(parents)
		expectNoNumber(t, fmt.Sprint("number of inversions of ", parents), count, ok)
	}
}

func TestInversionsAreSpreadAsDistances(t *testing.T) {
	for n, want := range [][]int{
		{1}, {1}, {2, 1}, {6, 6, 3, 1}, {24, 36, 30, 20, 10, 4, 1}, {120, 240, 270, 240, 180, 120, 70, 35, 15, 5, 1},
	} {
		byHand := make([]int, n*(n-1)/2+1)
		for _, parents := range treesByHand(n) {
			byHand[len(inversionsByHand(parents))]++
		}
		what := fmt.Sprint("inversions of trees of ", n)
		got, ok := impl.CountByInversions(n)
		expectList(t, what, got, ok, want)
		expectList(t, what+" by hand", got, ok, byHand)
		distances, _ := impl.CountByDistance(n)
		expectList(t, what+" as distances", got, ok, distances)
	}
	for _, n := range []int{-1, 6, 7, 8, 9, math.MaxInt, math.MinInt} {
		got, ok := impl.CountByInversions(n)
		expectNoList(t, fmt.Sprint("inversions of trees of ", n), got, ok)
	}
}

func TestRelabelTree(t *testing.T) {
	for n := range 5 {
		trees := treesByHand(n)
		eachOrder(n, func(names []int) {
			for _, parents := range trees {
				want := make([]int, n)
				for i, parent := range parents {
					if parent != 0 {
						want[names[i]-1] = names[parent-1]
					}
				}
				got, ok := impl.RelabelTree(parents, names)
				expectList(t, fmt.Sprint(parents, " called ", names), got, ok, want)
			}
		})
	}
	for _, c := range []struct{ parents, names, want []int }{
		{nil, nil, nil},
		{[]int{0, 1, 1}, []int{3, 1, 2}, []int{3, 3, 0}},
		{[]int{0, 1, 2}, []int{2, 3, 1}, []int{3, 0, 2}},
		{[]int{0, 1, 2, 3, 4, 5, 6, 7}, []int{8, 7, 6, 5, 4, 3, 2, 1}, []int{2, 3, 4, 5, 6, 7, 8, 0}},
	} {
		got, ok := impl.RelabelTree(c.parents, c.names)
		expectList(t, fmt.Sprint(c.parents, " called ", c.names), got, ok, c.want)
	}
	for _, c := range []struct{ parents, names []int }{
		{nil, []int{1}}, {[]int{0}, nil}, {[]int{0}, []int{0}}, {[]int{0}, []int{2}}, {[]int{0}, []int{1, 2}}, {[]int{0}, []int{1, 1}},
		{[]int{0, 0}, []int{1}}, {[]int{0, 0}, []int{1, 1}}, {[]int{0, 0}, []int{2, 2}}, {[]int{0, 0}, []int{0, 1}}, {[]int{0, 0}, []int{1, 3}},
		{[]int{0, 0}, []int{1, -2}}, {[]int{0, 0}, []int{1, math.MaxInt}}, {[]int{0, 0}, []int{math.MinInt, 2}}, {[]int{0, 0}, []int{2, 1, 0}},
		{make([]int, 8), []int{1, 2, 3, 4, 5, 6, 7, 7}}, {make([]int, 8), []int{1, 2, 3, 4, 5, 6, 7, 9}},
		{make([]int, 9), []int{1, 2, 3, 4, 5, 6, 7, 8, 9}}, {[]int{1}, []int{1}}, {[]int{2, 1}, []int{1, 2}}, {[]int{0, 3}, []int{1, 2}},
	} {
		got, ok := impl.RelabelTree(c.parents, c.names)
		expectNoList(t, fmt.Sprint(c.parents, " called ", c.names), got, ok)
	}
}

// exchangedByHand exchanges the names 0 and child at the ends of all edges, and lets parents lead to 0 again.
func exchangedByHand(parents []int, child int) []int {
	renamed := make([]int, len(parents)+1)
	for node := range renamed {
		renamed[node] = node
	}
	renamed[0], renamed[child] = child, 0
	exchanged := make([]int, len(parents))
	reached := make([]bool, len(parents)+1)
	reached[0] = true
	for range parents {
		for i, parent := range parents {
			a, b := renamed[i+1], renamed[parent]
			if reached[b] && !reached[a] {
				a, b = b, a
			}
			if reached[a] && !reached[b] {
				exchanged[b-1] = a
				reached[b] = true
			}
		}
	}
	return exchanged
}

func TestRerootTree(t *testing.T) {
	eachTree(func(parents []int) {
		for child := -1; child <= len(parents)+1; child++ {
			what := fmt.Sprint(parents, " with the root exchanged with ", child)
			got, ok := impl.RerootTree(parents, child)
			if child < 1 || child > len(parents) || parents[child-1] != 0 {
				expectNoList(t, what, got, ok)
				continue
			}
			expectList(t, what, got, ok, exchangedByHand(parents, child))
			back, ok := impl.RerootTree(got, child)
			expectList(t, what+" twice", back, ok, parents)
		}
	})
	for _, c := range []struct {
		parents []int
		child   int
		want    []int
	}{
		{[]int{0}, 1, []int{0}},
		{[]int{0, 1, 1}, 1, []int{0, 0, 0}},
		{[]int{0, 0, 1}, 1, []int{0, 1, 0}},
		{[]int{0, 0, 1}, 2, []int{2, 0, 1}},
		{make([]int, 8), 8, []int{8, 8, 8, 8, 8, 8, 8, 0}},
	} {
		got, ok := impl.RerootTree(c.parents, c.child)
		expectList(t, fmt.Sprint(c.parents, " with the root exchanged with ", c.child), got, ok, c.want)
	}
	for _, child := range []int{0, 9, math.MaxInt, math.MinInt} {
		got, ok := impl.RerootTree(make([]int, 8), child)
		expectNoList(t, fmt.Sprint("the root exchanged with ", child), got, ok)
	}
	for _, parents := range notTrees {
		for child := range 10 {
			got, ok := impl.RerootTree(parents, child)
			expectNoList(t, fmt.Sprint(parents, " with the root exchanged with ", child), got, ok)
		}
	}
}

func TestTreeTexts(t *testing.T) {
	eachTree(func(parents []int) {
		want := strings.ReplaceAll(strings.Trim(fmt.Sprint(parents), "[]"), " ", ",")
		if len(parents) == 0 {
			want = "-"
		}
		text, ok := impl.TreeText(parents)
		if !ok || text != want {
			t.Errorf("text of %v: got %q, %v, want %q", parents, text, ok, want)
		}
		got, ok := impl.ParseTree(want)
		expectList(t, fmt.Sprintf("parse %q", want), got, ok, parents)
	})
	for _, parents := range notTrees {
		if text, ok := impl.TreeText(parents); ok || text != "" {
			t.Errorf("text of %v: got %q, %v", parents, text, ok)
		}
	}
	for _, s := range []string{
		"", " ", ",", "-,", ",-", "--", "-,-", " -", "- ", "-\n", "0,-", "-0", "+0", "0,", ",0", "0,,0", "00", "01,0", "0,01", "0,+1", "0, 1", "0 1",
		"0 ", " 0", "0,0\n", "0;0", "0\x00", "1", "-1", "0,-1", "2", "2,1", "0,3", "1,0", "a", "0,a", "0.0", "0x0", "0_0", "\u0660", "\xff",
		"9223372036854775808", "0,0,0,0,0,0,0,0,0", "0,0,0,0,0,0,0,9", "2,3,4,5,6,7,8,1",
		strings.Repeat("0", 1000), strings.Repeat("0,", 1000), strings.Repeat(",", 1000), strings.Repeat("-", 1000),
	} {
		got, ok := impl.ParseTree(s)
		expectNoList(t, fmt.Sprintf("parse %q", s), got, ok)
	}
}
