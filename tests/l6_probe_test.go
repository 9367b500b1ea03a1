package tests

import (
	"cmp"
	"fmt"
	"math"
	"regexp"
	"slices"
	"strconv"
	"strings"
	"testing"

	"loop.example/g01115/impl"
)

// Cells that are no table: too few or too many, no keys, a key twice, no free cell, or a free one between a key and its own cell.
var notTables = [][]int{
	nil, {}, {-1}, {0}, slices.Repeat([]int{-1}, 13), slices.Repeat([]int{-1}, 100), {0, -1, -1, -1, -1, -1, -1, -1, -1, -1, -1, -1, -1},
	{-2, -1}, {-1, -2}, {1000, -1}, {-1, 1001}, {-1, -1, 1001}, {-1, 2, -1000}, {math.MaxInt, -1}, {-1, math.MaxInt}, {math.MinInt, -1}, {-1, math.MinInt, 2},
	{3, 3, -1}, {0, 0, -1}, {-1, 1, 1}, {4, -1, -1, 4}, {-1, 5, 2, 5, 1, -1}, {6, -1, 6, -1, 6},
	{0, 1}, {2, 1}, {1, 0}, {0, 1, 2}, {0, 1, 2, 3, 4, 5, 6, 7, 8, 9, 10, 11}, slices.Repeat([]int{5}, 12),
	{1, -1}, {-1, 0}, {-1, 0, -1}, {1, -1, -1}, {-1, 1, -1, 5}, {5, -1, 2, -1}, {-1, 3, 2, -1}, {-1, 0, 2, 3}, {-1, -1, 12, -1, -1, -1, -1, -1, -1, -1, -1, -1},
	{11, 23, -1, 35, -1, -1, -1, -1, -1, -1, -1, -1}, {-1, 23, -1, -1, -1, -1, -1, -1, -1, -1, -1, 11},
}

// Keys that are none: one outside its range, or one twice, but few enough for a table of 12 cells.
var notKeys = [][]int{
	{-1}, {1000}, {1001}, {-2}, {0, -1}, {-1, 0}, {0, 1000}, {999, 1000}, {0, 0}, {999, 999}, {0, 1, 0}, {0, 1, 2, 3, 4, 5, 6, 7, 8, 9, 0},
	{math.MaxInt}, {math.MinInt}, {0, math.MaxInt}, {math.MinInt, 0}, make([]int, 11),
}

// Tables near the limits, with clusters and keys that go round the end.
var greatTables = [][]int{
	{-1, 999}, {999, -1, 998}, {998, -1},
	{9, 14, -1, -1, 4}, {9, 14, 2, -1, 4}, {11, -1, 2, -1, -1, 5}, {11, 17, 23, 29, -1, 5},
	{12, 24, 36, 48, 60, 72, 84, 0, -1, -1, -1, -1}, {0, 1, 2, 3, 4, 5, 6, 7, 8, 9, 10, -1}, {0, 1, 2, 3, 4, -1, 6, 7, 8, 9, 10, 11},
	{23, 35, 47, 59, 71, 83, 95, 107, 119, 131, -1, 11}, {10, 22, 11, 0, 2, -1, -1, 7, 19, -1, 34, 23},
	{22, -1, 998, -1, 4, -1, 6, -1, 8, -1, 10, 994}, {-1, 13, 1, 25, 2, 3, 38, -1, -1, 9, 993, 22},
}

func tableOf(cells []int) impl.Table {
	return impl.Table{Cells: cells}
}

func isTableByHand(cells []int) bool {
	if len(cells) < 2 || len(cells) > 12 {
		return false
	}
	seen := map[int]bool{}
	free := 0
	for _, key := range cells {
		if key == -1 {
			free++
		} else if key < 0 || key > 999 || seen[key] {
			return false
		}
		seen[key] = true
	}
	if free == 0 {
		return false
	}
	for cell, key := range cells {
		if key != -1 && slices.Contains(wayByHand(cells, key%len(cells), cell), -1) {
			return false
		}
	}
	return true
}

// wayByHand returns what is in the cells from one on up to before another one, going round.
func wayByHand(cells []int, from int, to int) []int {
	var passed []int
	for cell := from; cell != to; cell = (cell + 1) % len(cells) {
		passed = append(passed, cells[cell])
	}
	return passed
}

// keysByHand are the keys in the order of their cells.
func keysByHand(cells []int) []int {
	return slices.DeleteFunc(slices.Clone(cells), func(key int) bool { return key == -1 })
}

func usedByHand(cells []int) []int {
	var used []int
	for cell, key := range cells {
		if key != -1 {
			used = append(used, cell)
		}
	}
	return used
}

func costByHand(cells []int, key int) int {
	return len(wayByHand(cells, key%len(cells), slices.Index(cells, key)))
}

func costsByHand(cells []int) []int {
	var costs []int
	for _, key := range keysByHand(cells) {
		costs = append(costs, costByHand(cells, key))
	}
	return costs
}

// insertByHand looks at the cells twice, so that it need not go round.
func insertByHand(cells []int, key int) ([]int, int) {
	own := key % len(cells)
	twice := append(slices.Clone(cells), cells...)
	cell := (own + slices.Index(twice[own:], -1)) % len(cells)
	inserted := slices.Clone(cells)
	inserted[cell] = key
	return inserted, cell
}

func freeByHand(size int) []int {
	return slices.Repeat([]int{-1}, size)
}

func filledByHand(size int, keys []int) []int {
	cells := freeByHand(size)
	for _, key := range keys {
		cells, _ = insertByHand(cells, key)
	}
	return cells
}

// removeByHand goes by the cells behind the free one, and looks for the own cell of each key among them.
func removeByHand(cells []int, key int) []int {
	removed := slices.Clone(cells)
	size := len(cells)
	free := slices.Index(removed, key)
	removed[free] = -1
	var behind []int
	for cell := (free + 1) % size; removed[cell] != -1; {
		behind = append(behind, cell)
		if !slices.Contains(behind, removed[cell]%size) {
			removed[free], removed[cell] = removed[cell], -1
			free = cell
			behind = nil
		}
		cell = (cell + 1) % size
	}
	return removed
}

// clustersByHand looks at the cells twice, and returns the lengths and what is in the cells of each cluster.
func clustersByHand(cells []int) ([]int, [][]int) {
	var lengths []int
	var clusters [][]int
	twice := append(slices.Clone(cells), cells...)
	for first := range cells {
		before := (first + len(cells) - 1) % len(cells)
		length := slices.Index(twice[first:], -1)
		if cells[before] == -1 && length > 0 {
			lengths = append(lengths, length)
			clusters = append(clusters, slices.Clone(twice[first:first+length]))
		}
	}
	return lengths, clusters
}

// robinByHand sorts the keys of each cluster, as robin hood order is: by their own cells from the first one of the cluster on, and greater keys first.
func robinByHand(cells []int) []int {
	size := len(cells)
	robin := freeByHand(size)
	_, clusters := clustersByHand(cells)
	for _, keys := range clusters {
		first := slices.Index(cells, keys[0])
		slices.SortFunc(keys, func(a int, b int) int {
			return cmp.Or(cmp.Compare((a+size-first)%size, (b+size-first)%size), cmp.Compare(b, a))
		})
		for i, key := range keys {
			robin[(first+i)%size] = key
		}
	}
	return robin
}

// eachKeyOrder visits all orders of keys, in lexicographic order if keys increase.
func eachKeyOrder(keys []int, visit func(order []int)) {
	var fill func(order []int, left []int)
	fill = func(order []int, left []int) {
		if len(left) == 0 {
			visit(slices.Clone(order))
		}
		for i, key := range left {
			others := append(slices.Clone(left[:i]), left[i+1:]...)
			fill(append(slices.Clone(order), key), others)
		}
	}
	fill(nil, keys)
}

// insertionsByHand returns all orders of the keys that make the table, in lexicographic order.
func insertionsByHand(cells []int) [][]int {
	var orders [][]int
	eachKeyOrder(sortedCopy(keysByHand(cells)), func(order []int) {
		if slices.Equal(filledByHand(len(cells), order), cells) {
			orders = append(orders, order)
		}
	})
	return orders
}

// eachCells visits all lists of up to 5 cells with the keys less than twice their number, most of which are no tables.
func eachCells(visit func(cells []int)) {
	for size := range 6 {
		eachList(size, 2*size+1, func(cells []int) {
			for cell := range cells {
				cells[cell]--
			}
			visit(cells)
		})
	}
}

// eachKeySet visits all increasing lists of keys less than twice a size of up to 5 that leave a cell free.
func eachKeySet(visit func(size int, keys []int)) {
	for size := 2; size <= 5; size++ {
		for set := range 1 << (2 * size) {
			var keys []int
			for key := range 2 * size {
				if set>>key&1 == 1 {
					keys = append(keys, key)
				}
			}
			if len(keys) < size {
				visit(size, keys)
			}
		}
	}
}

// eachGreatFilling visits keys in different orders for tables of up to 12 cells, many of them with the same own cell.
func eachGreatFilling(visit func(size int, keys []int)) {
	for size := 6; size <= 12; size++ {
		for seed := range 300 {
			var keys []int
			x := seed + 1
			for len(keys) < 1+seed%(size-1) {
				x = (x*1103 + 12345) % 100003
				key := x % 1000
				if seed%3 == 0 {
					key = key / size * size % 996
					key += (seed + x%3) % size
				}
				if key <= 999 && !slices.Contains(keys, key) {
					keys = append(keys, key)
				}
			}
			visit(size, keys)
		}
	}
}

func eachTable(visit func(cells []int)) {
	eachCells(func(cells []int) {
		if isTableByHand(cells) {
			visit(cells)
		}
	})
	for _, cells := range greatTables {
		visit(slices.Clone(cells))
	}
	eachGreatFilling(func(size int, keys []int) { visit(filledByHand(size, keys)) })
}

func expectTable(t *testing.T, what string, got impl.Table, ok bool, want []int) {
	t.Helper()
	expectList(t, what, got.Cells, ok, want)
}

func expectNoTable(t *testing.T, what string, got impl.Table, ok bool) {
	t.Helper()
	expectNoList(t, what, got.Cells, ok)
}

func expectInsertion(t *testing.T, cells []int, key int) {
	t.Helper()
	what := fmt.Sprint(key, " inserted into ", cells)
	got, cell, ok := impl.InsertKey(tableOf(cells), key)
	if slices.Contains(cells, key) || len(keysByHand(cells))+1 == len(cells) || key < 0 || key > 999 {
		expectNoTable(t, what, got, ok)
		expectNoNumber(t, what, cell, ok)
		return
	}
	want, wantCell := insertByHand(cells, key)
	expectTable(t, what, got, ok, want)
	expectNumber(t, what, cell, ok, wantCell)
	back, ok := impl.RemoveKey(got, key)
	expectTable(t, what+" and removed", back, ok, cells)
}

func expectFinding(t *testing.T, cells []int, key int) {
	t.Helper()
	what := fmt.Sprint(key, " found in ", cells)
	cell, cost, ok := impl.FindKey(tableOf(cells), key)
	if key < 0 || !slices.Contains(cells, key) {
		expectNoNumber(t, what, cell, ok)
		expectNoNumber(t, what, cost, ok)
		return
	}
	expectNumber(t, what, cell, ok, slices.Index(cells, key))
	expectNumber(t, what, cost, ok, costByHand(cells, key))
}

func expectRemoval(t *testing.T, cells []int, key int) {
	t.Helper()
	what := fmt.Sprint(key, " removed from ", cells)
	got, ok := impl.RemoveKey(tableOf(cells), key)
	if key < 0 || !slices.Contains(cells, key) {
		expectNoTable(t, what, got, ok)
		return
	}
	expectTable(t, what, got, ok, removeByHand(cells, key))
	if !isTableByHand(got.Cells) {
		t.Errorf("%s: %v is no table", what, got.Cells)
	}
	others := slices.DeleteFunc(keysByHand(cells), func(other int) bool { return other == key })
	if !slices.Equal(usedByHand(got.Cells), usedByHand(filledByHand(len(cells), others))) {
		t.Errorf("%s: %v has other used cells than the keys without it", what, got.Cells)
	}
}

// expectRefused holds for all functions of a table if these cells are none.
func expectRefused(t *testing.T, cells []int) {
	t.Helper()
	what := fmt.Sprint(" of ", cells)
	table := tableOf(cells)
	for _, key := range append(slices.Clone(cells), 0, 5, 999) {
		got, cell, ok := impl.InsertKey(table, key)
		expectNoTable(t, "insertion"+what, got, ok)
		expectNoNumber(t, "insertion"+what, cell, ok)
		cell, cost, ok := impl.FindKey(table, key)
		expectNoNumber(t, "cell"+what, cell, ok)
		expectNoNumber(t, "cost"+what, cost, ok)
		got, ok = impl.RemoveKey(table, key)
		expectNoTable(t, "removal"+what, got, ok)
	}
	keys, ok := impl.KeysOf(table)
	expectNoList(t, "keys"+what, keys, ok)
	used, ok := impl.UsedCells(table)
	expectNoList(t, "used cells"+what, used, ok)
	cost, ok := impl.CostOf(table)
	expectNoNumber(t, "cost"+what, cost, ok)
	cost, ok = impl.GreatestCost(table)
	expectNoNumber(t, "greatest cost"+what, cost, ok)
	lengths, ok := impl.ClustersOf(table)
	expectNoList(t, "clusters"+what, lengths, ok)
	order, ok := impl.FirstInsertion(table)
	expectNoList(t, "first insertion"+what, order, ok)
	count, ok := impl.CountInsertions(table)
	expectNoNumber(t, "insertions"+what, count, ok)
	is, ok := impl.IsRobin(table)
	expectNoAnswer(t, "is robin"+what, is, ok)
	expectNoStreet(t, cells)
	text, ok := impl.TableText(table)
	if ok || text != "" {
		t.Errorf("text%s: got %q, %v, want a failure", what, text, ok)
	}
}

func expectNoStreet(t *testing.T, cells []int) {
	t.Helper()
	what := fmt.Sprint("street of ", cells)
	list, places, ok := impl.StreetOf(tableOf(cells))
	expectNoList(t, what, list, ok)
	expectNoNumber(t, what, places, ok)
}

func TestIsTable(t *testing.T) {
	eachCells(func(cells []int) {
		if got, want := impl.IsTable(tableOf(cells)), isTableByHand(cells); got != want {
			t.Errorf("table %v: got %v, want %v", cells, got, want)
		}
	})
	for _, cells := range notTables {
		if impl.IsTable(tableOf(cells)) || isTableByHand(cells) {
			t.Errorf("%v is no table", cells)
		}
		expectRefused(t, cells)
	}
	for _, cells := range append(greatTables, freeByHand(2), freeByHand(12), []int{-1, 1, 5, 2}, []int{0, -1}, []int{-1, 1}) {
		if !impl.IsTable(tableOf(cells)) || !isTableByHand(cells) {
			t.Errorf("%v is a table", cells)
		}
	}
}

func TestRefusedTables(t *testing.T) {
	for size := range 4 {
		eachList(size, size+2, func(cells []int) {
			for cell := range cells {
				cells[cell] -= 2
			}
			if !isTableByHand(cells) {
				expectRefused(t, cells)
			}
		})
	}
}

func TestEmptyTable(t *testing.T) {
	for size := 2; size <= 12; size++ {
		what := fmt.Sprint("empty table of ", size)
		got, ok := impl.EmptyTable(size)
		expectTable(t, what, got, ok, freeByHand(size))
		keys, ok := impl.KeysOf(got)
		expectList(t, what+": keys", keys, ok, nil)
		used, ok := impl.UsedCells(got)
		expectList(t, what+": used", used, ok, nil)
		cost, ok := impl.CostOf(got)
		expectNumber(t, what+": cost", cost, ok, 0)
		cost, ok = impl.GreatestCost(got)
		expectNumber(t, what+": greatest cost", cost, ok, 0)
		lengths, ok := impl.ClustersOf(got)
		expectList(t, what+": clusters", lengths, ok, nil)
		order, ok := impl.FirstInsertion(got)
		expectList(t, what+": first insertion", order, ok, nil)
		count, ok := impl.CountInsertions(got)
		expectNumber(t, what+": insertions", count, ok, 1)
		is, ok := impl.IsRobin(got)
		expectAnswer(t, what+": is robin", is, ok, true)
		expectNoStreet(t, got.Cells)
		for _, f := range []func(int, []int) (impl.Table, bool){impl.TableOf, impl.RobinTable} {
			filled, ok := f(size, nil)
			expectTable(t, what+", filled", filled, ok, freeByHand(size))
		}
	}
	for _, size := range []int{1, 13, 0, -1, 14, 100, math.MaxInt, math.MinInt} {
		what := fmt.Sprint("table of ", size)
		got, ok := impl.EmptyTable(size)
		expectNoTable(t, what, got, ok)
		for _, keys := range [][]int{nil, {}, {0}, {0, 1, 2}} {
			got, ok = impl.TableOf(size, keys)
			expectNoTable(t, what, got, ok)
			got, ok = impl.RobinTable(size, keys)
			expectNoTable(t, what, got, ok)
		}
	}
}

func TestTableExamples(t *testing.T) {
	first, ok := impl.TableOf(4, []int{1, 5, 2})
	expectTable(t, "table of 1, 5, 2", first, ok, []int{-1, 1, 5, 2})
	for i, key := range []int{1, 5, 2} {
		cell, cost, ok := impl.FindKey(first, key)
		expectNumber(t, fmt.Sprint("cell of ", key), cell, ok, i+1)
		expectNumber(t, fmt.Sprint("cost of ", key), cost, ok, []int{0, 1, 1}[i])
	}
	removed, ok := impl.RemoveKey(first, 1)
	expectTable(t, "without 1", removed, ok, []int{-1, 5, 2, -1})
	second, ok := impl.TableOf(4, []int{2, 5, 1})
	expectTable(t, "table of 2, 5, 1", second, ok, []int{-1, 5, 2, 1})
	for i, key := range []int{5, 2, 1} {
		cell, cost, ok := impl.FindKey(second, key)
		expectNumber(t, fmt.Sprint("cell of ", key), cell, ok, i+1)
		expectNumber(t, fmt.Sprint("cost of ", key), cost, ok, []int{0, 0, 2}[i])
	}
	for _, table := range []impl.Table{first, second} {
		used, ok := impl.UsedCells(table)
		expectList(t, "used cells", used, ok, []int{1, 2, 3})
		cost, ok := impl.CostOf(table)
		expectNumber(t, "cost", cost, ok, 2)
	}
	greatest, ok := impl.GreatestCost(first)
	expectNumber(t, "greatest cost of the first", greatest, ok, 1)
	greatest, ok = impl.GreatestCost(second)
	expectNumber(t, "greatest cost of the second", greatest, ok, 2)
}

func TestInsertions(t *testing.T) {
	eachTable(func(cells []int) {
		for key := range 2*len(cells) + 1 {
			expectInsertion(t, cells, key)
		}
		expectInsertion(t, cells, 999)
		for _, key := range append(keysByHand(cells), -1, -2, 1000, 1000+len(cells), math.MaxInt, math.MinInt) {
			expectInsertion(t, cells, key)
		}
	})
	for _, c := range []struct {
		cells []int
		key   int
		want  []int
		cell  int
	}{
		{[]int{-1, -1}, 999, []int{-1, 999}, 1},
		{[]int{-1, -1}, 0, []int{0, -1}, 0},
		{[]int{-1, -1, 2}, 5, []int{5, -1, 2}, 0},
		{[]int{9, 14, -1, -1, 4}, 19, []int{9, 14, 19, -1, 4}, 2},
		{[]int{9, 14, -1, -1, 4}, 0, []int{9, 14, 0, -1, 4}, 2},
		{[]int{0, 1, 2, 3, 4, -1, 6, 7, 8, 9, -1, 11}, 18, []int{0, 1, 2, 3, 4, -1, 6, 7, 8, 9, 18, 11}, 10},
		{[]int{0, 1, 2, 3, -1, -1, 6, 7, 8, 9, 10, 11}, 18, []int{0, 1, 2, 3, 18, -1, 6, 7, 8, 9, 10, 11}, 4},
	} {
		what := fmt.Sprint(c.key, " inserted into ", c.cells)
		got, cell, ok := impl.InsertKey(tableOf(c.cells), c.key)
		expectTable(t, what, got, ok, c.want)
		expectNumber(t, what, cell, ok, c.cell)
	}
	for _, c := range []struct {
		why   string
		cells []int
		key   int
	}{
		{"one free cell of 2", []int{0, -1}, 1}, {"one free cell of 4", []int{-1, 1, 5, 2}, 4}, {"one free cell of 12", []int{0, 1, 2, 3, 4, 5, 6, 7, 8, 9, 10, -1}, 11},
		{"there already", []int{-1, 5, 2, 1, -1}, 1}, {"there already, round the end", []int{9, 14, -1, -1, 4}, 14}, {"there already, and one free cell", []int{-1, 1, 5, 2}, 5},
		{"too great", []int{-1, -1}, 1000}, {"what free cells have", []int{-1, -1}, -1}, {"too small", []int{-1, -1}, -2},
	} {
		what := fmt.Sprint(c.why, ": ", c.key, " inserted into ", c.cells)
		got, cell, ok := impl.InsertKey(tableOf(c.cells), c.key)
		expectNoTable(t, what, got, ok)
		expectNoNumber(t, what, cell, ok)
	}
}

func TestFindings(t *testing.T) {
	eachTable(func(cells []int) {
		for key := range 2*len(cells) + 1 {
			expectFinding(t, cells, key)
		}
		for _, key := range append(keysByHand(cells), -1, -2, 999, 1000, 1000+len(cells), math.MaxInt, math.MinInt) {
			expectFinding(t, cells, key)
		}
	})
	for _, c := range []struct {
		cells           []int
		key, cell, cost int
	}{
		{[]int{9, 14, -1, -1, 4}, 4, 4, 0}, {[]int{9, 14, -1, -1, 4}, 9, 0, 1}, {[]int{9, 14, -1, -1, 4}, 14, 1, 2}, {[]int{-1, 999}, 999, 1, 0},
		{[]int{23, 35, 47, 59, 71, 83, 95, 107, 119, 131, -1, 11}, 131, 9, 10}, {[]int{23, 35, 47, 59, 71, 83, 95, 107, 119, 131, -1, 11}, 23, 0, 1},
	} {
		what := fmt.Sprint(c.key, " found in ", c.cells)
		cell, cost, ok := impl.FindKey(tableOf(c.cells), c.key)
		expectNumber(t, what, cell, ok, c.cell)
		expectNumber(t, what, cost, ok, c.cost)
	}
}

func TestRemovals(t *testing.T) {
	eachTable(func(cells []int) {
		for key := range 2*len(cells) + 1 {
			expectRemoval(t, cells, key)
		}
		for _, key := range append(keysByHand(cells), -1, -2, 999, 1000, 1000+len(cells), math.MaxInt, math.MinInt) {
			expectRemoval(t, cells, key)
		}
	})
	for _, c := range []struct {
		why   string
		cells []int
		key   int
		want  []int
	}{
		{"nothing is behind it", []int{0, -1}, 0, []int{-1, -1}},
		{"keys move back across the end", []int{9, 14, -1, -1, 4}, 4, []int{14, -1, -1, -1, 9}},
		{"one moves to the end from farther on", []int{0, 9, -1, -1, 4}, 4, []int{0, -1, -1, -1, 9}},
		{"keys before it stay", []int{9, 14, -1, -1, 4}, 9, []int{14, -1, -1, -1, 4}},
		{"one key stays, the next one moves", []int{-1, 1, 2, 6, -1}, 1, []int{-1, 6, 2, -1, -1}},
		{"keys in their own cells stay", []int{0, 1, 2, -1, 4}, 4, []int{0, 1, 2, -1, -1}},
		{"a key of the next cluster stays", []int{-1, 1, -1, 3, 8}, 1, []int{-1, -1, -1, 3, 8}},
		{"one stays, two move over it", []int{-1, 1, 2, 7, 13, -1}, 1, []int{-1, 7, 2, 13, -1, -1}},
		{"two equal own cells move", []int{-1, 1, 7, 13, -1, -1}, 1, []int{-1, 7, 13, -1, -1, -1}},
		{"all keys behind it move", []int{-1, 1, 7, 2, 8, -1}, 1, []int{-1, 7, 2, 8, -1, -1}},
		{"all cells but one, round the end", []int{23, 35, 47, 59, 71, 83, 95, 107, 119, 131, -1, 11}, 11, []int{35, 47, 59, 71, 83, 95, 107, 119, 131, -1, -1, 23}},
	} {
		what := fmt.Sprint(c.why, ": ", c.key, " removed from ", c.cells)
		got, ok := impl.RemoveKey(tableOf(c.cells), c.key)
		expectTable(t, what, got, ok, c.want)
	}
}

// expectFilled holds what does not depend on the order of the keys against a first order.
func expectFilled(t *testing.T, size int, keys []int, first []int) {
	t.Helper()
	what := fmt.Sprint(" of ", size, " and ", keys)
	table, ok := impl.TableOf(size, keys)
	expectTable(t, "table"+what, table, ok, filledByHand(size, keys))
	if !impl.IsTable(table) {
		t.Errorf("table%s: %v is none", what, table.Cells)
	}
	used, ok := impl.UsedCells(table)
	expectList(t, "used cells"+what, used, ok, usedByHand(first))
	cost, ok := impl.CostOf(table)
	expectNumber(t, "cost"+what, cost, ok, sumOf(costsByHand(first)))
	robin, ok := impl.RobinTable(size, keys)
	expectTable(t, "robin table"+what, robin, ok, robinByHand(first))
	if !impl.IsTable(robin) {
		t.Errorf("robin table%s: %v is no table", what, robin.Cells)
	}
}

// TestOrderOfKeysDoesNotMatter holds promise 6: the same cells, cost and robin hood order for each order of the keys.
func TestOrderOfKeysDoesNotMatter(t *testing.T) {
	eachKeySet(func(size int, keys []int) {
		first := filledByHand(size, keys)
		eachKeyOrder(keys, func(order []int) { expectFilled(t, size, order, first) })
	})
	eachGreatFilling(func(size int, keys []int) {
		first := filledByHand(size, keys)
		order := sortedCopy(keys)
		for i := range order {
			order = append(order[1:], order[0])
			expectFilled(t, size, order, first)
			slices.Reverse(order[i:])
			expectFilled(t, size, order, first)
		}
		expectFilled(t, size, keys, first)
	})
}

func TestUsedCellsOfOwnCells(t *testing.T) {
	eachGreatFilling(func(size int, keys []int) {
		var others []int
		for i, key := range keys {
			others = append(others, key%size+size*i)
		}
		table, ok := impl.TableOf(size, others)
		used, fine := impl.UsedCells(table)
		expectList(t, fmt.Sprint("used cells of ", size, " and ", others), used, ok && fine, usedByHand(filledByHand(size, keys)))
	})
}

func TestFillingLimits(t *testing.T) {
	for size := 2; size <= 12; size++ {
		for _, first := range []int{0, 999 - size} {
			var keys []int
			for key := first; len(keys) < size-1; key++ {
				keys = append(keys, key)
			}
			what := fmt.Sprint("table of ", size, " and ", keys)
			got, ok := impl.TableOf(size, keys)
			expectTable(t, what, got, ok, filledByHand(size, keys))
			got, ok = impl.RobinTable(size, keys)
			expectTable(t, what, got, ok, filledByHand(size, keys))
			for _, more := range [][]int{{999}, {999, 500}} {
				got, ok = impl.TableOf(size, append(slices.Clone(keys), more...))
				expectNoTable(t, what+" and more", got, ok)
				got, ok = impl.RobinTable(size, append(slices.Clone(keys), more...))
				expectNoTable(t, what+" and more", got, ok)
			}
		}
	}
	for _, keys := range notKeys {
		for _, size := range []int{2, 3, 11, 12} {
			what := fmt.Sprint("table of ", size, " and ", keys)
			got, ok := impl.TableOf(size, keys)
			expectNoTable(t, what, got, ok)
			got, ok = impl.RobinTable(size, keys)
			expectNoTable(t, what, got, ok)
		}
	}
	got, ok := impl.TableOf(2, []int{999})
	expectTable(t, "table of 999", got, ok, []int{-1, 999})
	got, ok = impl.TableOf(2, []int{1000})
	expectNoTable(t, "table of 1000", got, ok)
}

func TestKeysCostsAndClusters(t *testing.T) {
	eachTable(func(cells []int) {
		what := fmt.Sprint(" of ", cells)
		table := tableOf(cells)
		keys, ok := impl.KeysOf(table)
		expectList(t, "keys"+what, keys, ok, sortedCopy(keysByHand(cells)))
		used, ok := impl.UsedCells(table)
		expectList(t, "used cells"+what, used, ok, usedByHand(cells))
		cost, ok := impl.CostOf(table)
		expectNumber(t, "cost"+what, cost, ok, sumOf(costsByHand(cells)))
		greatest, ok := impl.GreatestCost(table)
		expectNumber(t, "greatest cost"+what, greatest, ok, slices.Max(append(costsByHand(cells), 0)))
		lengths, ok := impl.ClustersOf(table)
		want, _ := clustersByHand(cells)
		expectList(t, "clusters"+what, lengths, ok, want)
	})
	for _, c := range []struct {
		cells, keys, used, clusters []int
		cost, greatest              int
	}{
		{[]int{0, -1}, []int{0}, []int{0}, []int{1}, 0, 0},
		{[]int{-1, 1}, []int{1}, []int{1}, []int{1}, 0, 0},
		{[]int{9, 14, -1, -1, 4}, []int{4, 9, 14}, []int{0, 1, 4}, []int{3}, 3, 2},
		{[]int{11, -1, 2, -1, -1, 5}, []int{2, 5, 11}, []int{0, 2, 5}, []int{1, 2}, 1, 1},
		{[]int{0, -1, 2, 8, -1, -1}, []int{0, 2, 8}, []int{0, 2, 3}, []int{1, 2}, 1, 1},
		{[]int{-1, 1, -1, 3, -1, 5}, []int{1, 3, 5}, []int{1, 3, 5}, []int{1, 1, 1}, 0, 0},
		{[]int{0, 1, 2, 3, 4, -1, 6, 7, 8, 9, 10, 11}, []int{0, 1, 2, 3, 4, 6, 7, 8, 9, 10, 11}, []int{0, 1, 2, 3, 4, 6, 7, 8, 9, 10, 11}, []int{11}, 0, 0},
		{[]int{23, 35, 47, 59, 71, 83, 95, 107, 119, 131, -1, 11}, []int{11, 23, 35, 47, 59, 71, 83, 95, 107, 119, 131}, []int{0, 1, 2, 3, 4, 5, 6, 7, 8, 9, 11}, []int{11}, 55, 10},
	} {
		what := fmt.Sprint(" of ", c.cells)
		keys, ok := impl.KeysOf(tableOf(c.cells))
		expectList(t, "keys"+what, keys, ok, c.keys)
		used, ok := impl.UsedCells(tableOf(c.cells))
		expectList(t, "used cells"+what, used, ok, c.used)
		lengths, ok := impl.ClustersOf(tableOf(c.cells))
		expectList(t, "clusters"+what, lengths, ok, c.clusters)
		cost, ok := impl.CostOf(tableOf(c.cells))
		expectNumber(t, "cost"+what, cost, ok, c.cost)
		greatest, ok := impl.GreatestCost(tableOf(c.cells))
		expectNumber(t, "greatest cost"+what, greatest, ok, c.greatest)
	}
}

func TestInsertionOrders(t *testing.T) {
	eachTable(func(cells []int) {
		what := fmt.Sprint(" of ", cells)
		first, ok := impl.FirstInsertion(tableOf(cells))
		made := filledByHand(len(cells), first)
		if !ok || !slices.Equal(made, cells) {
			t.Errorf("first insertion%s: got %v, %v, which makes %v", what, first, ok, made)
		}
		if len(keysByHand(cells)) > 5 {
			return
		}
		orders := insertionsByHand(cells)
		expectList(t, "first insertion"+what, first, ok, orders[0])
		count, ok := impl.CountInsertions(tableOf(cells))
		expectNumber(t, "insertions"+what, count, ok, len(orders))
	})
	for _, c := range []struct {
		cells, first []int
		count        int
	}{
		{[]int{-1, 1, 5, 2}, []int{1, 5, 2}, 1},
		{[]int{-1, 5, 2, 1}, []int{2, 5, 1}, 2},
		{[]int{9, 14, -1, -1, 4}, []int{4, 9, 14}, 1},
		{[]int{4, 9, -1, -1, 14}, []int{14, 4, 9}, 1},
		{[]int{11, -1, 2, -1, -1, 5}, []int{2, 5, 11}, 3},
		{[]int{0, 1, 2, 3, 4, 5, 6, -1, -1, -1, -1, -1}, []int{0, 1, 2, 3, 4, 5, 6}, 5040},
		{[]int{-1, 97, 85, 73, 61, 49, 37, 25, -1, -1, -1, -1}, []int{97, 85, 73, 61, 49, 37, 25}, 1},
		{[]int{11, 23, -1, 3, 15, -1, 6, 18, -1, -1, -1, 35}, []int{3, 6, 15, 18, 35, 11, 23}, 210},
	} {
		what := fmt.Sprint(" of ", c.cells)
		first, ok := impl.FirstInsertion(tableOf(c.cells))
		expectList(t, "first insertion"+what, first, ok, c.first)
		count, ok := impl.CountInsertions(tableOf(c.cells))
		expectNumber(t, "insertions"+what, count, ok, c.count)
	}
}

// TestCountedKeys has 7 keys, for which orders are counted, and 8, for which they are not.
func TestCountedKeys(t *testing.T) {
	for _, size := range []int{8, 9, 12} {
		for _, step := range []int{1, 2, size, size + 1} {
			var keys []int
			for key := 3; len(keys) < 7; key += step {
				keys = append(keys, key)
			}
			cells := filledByHand(size, keys)
			orders := insertionsByHand(cells)
			count, ok := impl.CountInsertions(tableOf(cells))
			expectNumber(t, fmt.Sprint("insertions of ", cells), count, ok, len(orders))
			first, ok := impl.FirstInsertion(tableOf(cells))
			expectList(t, fmt.Sprint("first insertion of ", cells), first, ok, orders[0])
		}
	}
	for cars := 8; cars <= 11; cars++ {
		for _, cells := range [][]int{filledByHand(12, numbersByHand(cars)), filledByHand(cars+1, numbersByHand(cars))} {
			count, ok := impl.CountInsertions(tableOf(cells))
			expectNoNumber(t, fmt.Sprint("insertions of ", cells), count, ok)
			first, ok := impl.FirstInsertion(tableOf(cells))
			expectList(t, fmt.Sprint("first insertion of ", cells), first, ok, numbersByHand(cars))
		}
	}
}

func TestRobin(t *testing.T) {
	eachTable(func(cells []int) {
		what := fmt.Sprint(" of ", cells)
		want := robinByHand(cells)
		is, ok := impl.IsRobin(tableOf(cells))
		expectAnswer(t, "is robin"+what, is, ok, slices.Equal(want, cells))
		keys := keysByHand(cells)
		robin, ok := impl.RobinTable(len(cells), keys)
		expectTable(t, "robin table"+what, robin, ok, want)
		is, ok = impl.IsRobin(robin)
		expectAnswer(t, "is robin of the robin table"+what, is, ok, true)
	})
	for _, c := range []struct {
		why  string
		keys []int
		want []int
	}{
		{"the greater key is first if costs are equal", []int{1, 5}, []int{-1, 5, 1, -1}},
		{"and the lesser one goes on if it comes later", []int{5, 1}, []int{-1, 5, 1, -1}},
		{"one that is far from its own cell stays", []int{1, 5, 2}, []int{-1, 5, 1, 2}},
		{"and pushes another one away", []int{2, 5, 1}, []int{-1, 5, 1, 2}},
		{"round the end", []int{3, 7, 0}, []int{3, 0, -1, 7}},
		{"round the end, the other way", []int{0, 3, 7}, []int{3, 0, -1, 7}},
		{"one key", []int{999}, []int{-1, -1, -1, 999}},
		{"three of one own cell", []int{6, 2, 10}, []int{2, -1, 10, 6}},
		{"three of one own cell that fall", []int{10, 6, 2}, []int{2, -1, 10, 6}},
	} {
		what := fmt.Sprint(c.why, ": robin table of ", c.keys)
		got, ok := impl.RobinTable(4, c.keys)
		expectTable(t, what, got, ok, c.want)
	}
	for _, c := range []struct {
		cells []int
		want  bool
	}{
		{[]int{-1, 5, 1, 2}, true}, {[]int{-1, 1, 5, 2}, false}, {[]int{-1, 5, 2, 1}, false}, {[]int{0, -1}, true},
		{[]int{9, 4, -1, -1, 14}, true}, {[]int{9, 14, -1, -1, 4}, false}, {[]int{0, 1, 2, 3, 4, 5, 6, 7, 8, 9, 10, -1}, true},
	} {
		is, ok := impl.IsRobin(tableOf(c.cells))
		expectAnswer(t, fmt.Sprint("is robin of ", c.cells), is, ok, c.want)
	}
}

// expectStreet checks that the keys drive as cars do, by the drives of chapter 1.
func expectStreet(t *testing.T, cells []int) {
	t.Helper()
	what := fmt.Sprint("street of ", cells)
	size := len(cells)
	list, places, ok := impl.StreetOf(tableOf(cells))
	expectNumber(t, what+": places", places, ok, size-1)
	order, _ := impl.FirstInsertion(tableOf(cells))
	first := 0
	for cell, key := range cells {
		if key == -1 {
			first = (cell + 1) % size
		}
	}
	var favourites, costs []int
	for _, key := range order {
		favourites = append(favourites, (key%size+size-first)%size)
		costs = append(costs, costByHand(cells, key))
	}
	expectList(t, what, list, ok, favourites)
	distances, ok := impl.DistancesOf(list, places)
	expectList(t, what+": distances", distances, ok, costs)
}

func TestStreets(t *testing.T) {
	eachTable(func(cells []int) {
		if keys := len(keysByHand(cells)); keys >= 1 && keys <= 8 {
			expectStreet(t, cells)
		} else {
			expectNoStreet(t, cells)
		}
	})
	for _, c := range []struct {
		cells, list []int
		places      int
	}{
		{[]int{-1, 1, 5, 2}, []int{0, 0, 1}, 3},
		{[]int{0, -1}, []int{0}, 1},
		{[]int{-1, 1}, []int{0}, 1},
		{[]int{11, -1, 2, -1, -1, 5}, []int{3, 0, 0}, 5},
		{[]int{4, 9, -1, -1, 14}, []int{0, 0, 0}, 4},
		{[]int{0, -1, -1, -1, -1, -1, -1, -1, -1, -1, -1, -1}, []int{0}, 11},
		{[]int{0, 1, 2, 3, 4, 5, 6, 7, -1}, []int{0, 1, 2, 3, 4, 5, 6, 7}, 8},
		{[]int{0, -1, 2, 3, 4, 5, 6, 7, 8}, []int{7, 0, 1, 2, 3, 4, 5, 6}, 8},
	} {
		list, places, ok := impl.StreetOf(tableOf(c.cells))
		expectList(t, fmt.Sprint("street of ", c.cells), list, ok, c.list)
		expectNumber(t, fmt.Sprint("street of ", c.cells), places, ok, c.places)
	}
	for keys := range 12 {
		cells := filledByHand(12, numbersByHand(keys))
		if keys >= 1 && keys <= 8 {
			expectStreet(t, cells)
		} else {
			expectNoStreet(t, cells)
		}
	}
}

func tableTextByHand(cells []int) string {
	var words []string
	for _, key := range cells {
		words = append(words, strings.Replace(strconv.Itoa(key), "-1", ".", 1))
	}
	return strings.Join(words, " ")
}

var cellsText = regexp.MustCompile(`^(\.|0|[1-9][0-9]{0,2})( (\.|0|[1-9][0-9]{0,2}))*$`)

func expectParsedTable(t *testing.T, s string) {
	t.Helper()
	what := fmt.Sprintf("parse %q", s)
	got, ok := impl.ParseTable(s)
	var cells []int
	if cellsText.MatchString(s) && !strings.HasSuffix(s, "\n") {
		for _, word := range strings.Split(s, " ") {
			key, err := strconv.Atoi(word)
			if err != nil {
				key = -1
			}
			cells = append(cells, key)
		}
	}
	if isTableByHand(cells) {
		expectTable(t, what, got, ok, cells)
	} else {
		expectNoTable(t, what, got, ok)
	}
}

func TestTableTexts(t *testing.T) {
	eachTable(func(cells []int) {
		want := tableTextByHand(cells)
		got, ok := impl.TableText(tableOf(cells))
		if !ok || got != want {
			t.Errorf("text of %v: got %q, %v, want %q", cells, got, ok, want)
		}
		back, ok := impl.ParseTable(want)
		expectTable(t, fmt.Sprintf("parse %q", want), back, ok, cells)
	})
	for _, c := range []struct {
		s     string
		cells []int
	}{
		{". .", freeByHand(2)}, {". . . . . . . . . . . .", freeByHand(12)}, {". 1 5 2", []int{-1, 1, 5, 2}}, {"0 .", []int{0, -1}}, {". 999", []int{-1, 999}}, {"9 14 . . 4", []int{9, 14, -1, -1, 4}},
		{"0 1 2 3 4 5 6 7 8 9 10 .", []int{0, 1, 2, 3, 4, 5, 6, 7, 8, 9, 10, -1}},
	} {
		got, ok := impl.TableText(tableOf(c.cells))
		if !ok || got != c.s {
			t.Errorf("text of %v: got %q, %v, want %q", c.cells, got, ok, c.s)
		}
		back, ok := impl.ParseTable(c.s)
		expectTable(t, fmt.Sprintf("parse %q", c.s), back, ok, c.cells)
	}
}

func TestNoTableText(t *testing.T) {
	for _, s := range []string{
		"", " ", "  ", ".", "0", "-", "..", "...", ". . ", " . .", ".  .", ".\t.", ".\n.", ". .\n", ".,.", "- -", "-1 -1", "-1 1", ". -1", "0 -1", ". -2", ". +1", ". 01", ". 1.", ". .1", ". 1.0", "00 .", "-0 .", ". 1_1", ". 0x1", ". 1e0", ". x", ". ١",
		"0 1", "2 1", ". 0", "1 .", "3 3 .", ". 1001", ". 1000", "1000 .", ". 9223372036854775807", ". 9223372036854775809", ". 18446744073709551617", ". 99999999999999999999999999",
		". . . . . . . . . . . . .", "0 1 2 3 4 5 6 7 8 9 10 11", strings.Repeat(". ", 1000), strings.Repeat("1", 1000), "1 5 2", "[. 1]", "{. 1}",
	} {
		got, ok := impl.ParseTable(s)
		expectNoTable(t, fmt.Sprintf("parse %q", s), got, ok)
		expectParsedTable(t, s)
	}
}
