package tests

import (
	"fmt"
	"math"
	"slices"
	"testing"

	"loop.example/g01115/impl"
)

func tableResult(table impl.Table, ok bool) result {
	return result{lists: [][]int{table.Cells}, ok: ok}
}

// tableCall makes a call whose list are the cells.
func tableCall(name string, f func(table impl.Table) result) call {
	return call{name, func(l ...[]int) result { return f(tableOf(l[0])) }}
}

func callsOfTables() []call {
	lists := func(name string, f func(impl.Table) ([]int, bool)) call {
		return tableCall(name, func(table impl.Table) result {
			list, ok := f(table)
			return result{lists: [][]int{list}, ok: ok}
		})
	}
	numbers := func(name string, f func(impl.Table) (int, bool)) call {
		return tableCall(name, func(table impl.Table) result {
			number, ok := f(table)
			return result{number: number, ok: ok}
		})
	}
	return []call{
		tableCall("IsTable", func(table impl.Table) result { return result{ok: impl.IsTable(table)} }),
		lists("KeysOf", impl.KeysOf),
		lists("UsedCells", impl.UsedCells),
		numbers("CostOf", impl.CostOf),
		numbers("GreatestCost", impl.GreatestCost),
		lists("ClustersOf", impl.ClustersOf),
		lists("FirstInsertion", impl.FirstInsertion),
		numbers("CountInsertions", impl.CountInsertions),
		tableCall("IsRobin", func(table impl.Table) result {
			answer, ok := impl.IsRobin(table)
			return result{answer: answer, ok: ok}
		}),
		tableCall("StreetOf", func(table impl.Table) result {
			list, places, ok := impl.StreetOf(table)
			return result{lists: [][]int{list}, number: places, ok: ok}
		}),
		tableCall("TableText", func(table impl.Table) result {
			text, ok := impl.TableText(table)
			return result{text: text, ok: ok}
		}),
	}
}

func callsOfKey(key int) []call {
	of := fmt.Sprint(" of ", key)
	return []call{
		tableCall("InsertKey"+of, func(table impl.Table) result {
			inserted, cell, ok := impl.InsertKey(table, key)
			return result{lists: [][]int{inserted.Cells}, number: cell, ok: ok}
		}),
		tableCall("FindKey"+of, func(table impl.Table) result {
			cell, cost, ok := impl.FindKey(table, key)
			return result{number: cell, second: cost, ok: ok}
		}),
		tableCall("RemoveKey"+of, func(table impl.Table) result { return tableResult(impl.RemoveKey(table, key)) }),
	}
}

func callsOfSize(size int) []call {
	of := fmt.Sprint(" of ", size)
	return []call{
		{"TableOf" + of, func(l ...[]int) result { return tableResult(impl.TableOf(size, l[0])) }},
		{"RobinTable" + of, func(l ...[]int) result { return tableResult(impl.RobinTable(size, l[0])) }},
		{"EmptyTable" + of, func(...[]int) result { return tableResult(impl.EmptyTable(size)) }},
	}
}

func tablesAndOthers() [][]int {
	lists := append(strangeLists(), notTables...)
	lists = append(lists, greatTables...)
	eachCells(func(cells []int) {
		if len(cells) < 4 || len(cells) == 4 && isTableByHand(cells) {
			lists = append(lists, cells)
		}
	})
	return append(lists, freeByHand(2), freeByHand(12), []int{-1, 1, 5, 2})
}

func TestAnyTables(t *testing.T) {
	calls := callsOfTables()
	for _, key := range append(strangeNumbers(), 4, 5, 998, 999, 1000, 1001) {
		calls = append(calls, callsOfKey(key)...)
	}
	for _, cells := range tablesAndOthers() {
		for _, c := range calls {
			expectDecent(t, c, cells)
		}
	}
}

func TestAnyKeys(t *testing.T) {
	lists := append(strangeLists(), notKeys...)
	for n := range 4 {
		eachList(n, 5, func(list []int) { lists = append(lists, list) })
	}
	lists = append(lists, []int{999, 0}, []int{998, 999}, numbersByHand(11), numbersByHand(12), numbersByHand(1000))
	for _, size := range append(strangeNumbers(), 4, 5, 10) {
		for _, c := range callsOfSize(size) {
			for _, keys := range lists {
				expectDecent(t, c, keys)
			}
		}
	}
}

// TestKeysNearCells has keys whose sum with a size would lead beyond the greatest int.
func TestKeysNearCells(t *testing.T) {
	for _, key := range []int{math.MaxInt, math.MaxInt - 1, math.MinInt, math.MinInt + 1, -1, -12} {
		for size := 2; size <= 12; size++ {
			cells := slices.Repeat([]int{-1}, size)
			expectInsertion(t, cells, key)
			expectFinding(t, cells, key)
			expectRemoval(t, cells, key)
			cells[0] = key
			if key != -1 {
				expectRefused(t, cells)
			}
		}
	}
}

func TestAnyTableText(t *testing.T) {
	for first := range 256 {
		for second := range 256 {
			expectParsedTable(t, string([]byte{'.', byte(first), byte(second)}))
			expectParsedTable(t, string([]byte{byte(first), ' ', byte(second)}))
		}
	}
	for _, s := range []string{". .", "0 .", ". 1 5 2", "9 14 . . 4", "23 35 47 59 71 83 95 107 119 131 . 11", ". . . . . . . . . . . 995"} {
		eachOtherText(s, func(s string) { expectParsedTable(t, s) })
	}
	expectDecent(t, call{"ParseTable", func(...[]int) result { return tableResult(impl.ParseTable(". 1 5 2")) }})
	expectDecent(t, call{"ParseTable", func(...[]int) result { return tableResult(impl.ParseTable(". 1 5 -1")) }})
}
