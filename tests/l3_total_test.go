package tests

import (
	"fmt"
	"testing"

	"loop.example/g01115/impl"
)

func callsOfOneTree() []call {
	return []call{
		{"IsTree", func(l ...[]int) result { return result{ok: impl.IsTree(l[0])} }},
		listCall("PruferOf", impl.PruferOf),
		listCall("TreeOfPrufer", impl.TreeOfPrufer),
		listCall("BreadthOrder", impl.BreadthOrder),
		listCall("TreeOfParking", impl.TreeOfParking),
		listCall("ParkingOfTree", impl.ParkingOfTree),
		listCall("DegreesOf", impl.DegreesOf),
		listCall("DepthsOf", impl.DepthsOf),
		listCall("BelowCounts", impl.BelowCounts),
		numberCall("InversionsOf", impl.InversionsOf),
		{"InversionPairs", func(l ...[]int) result {
			pairs, ok := impl.InversionPairs(l[0])
			return result{lists: pairs, ok: ok}
		}},
		listCall("LeavesOf", impl.LeavesOf),
		{"TreeText", func(l ...[]int) result {
			text, ok := impl.TreeText(l[0])
			return result{text: text, ok: ok}
		}},
	}
}

func rerootCalls() []call {
	var calls []call
	for _, child := range append(strangeNumbers(), 4, 5) {
		calls = append(calls, listCall(fmt.Sprint("RerootTree with ", child), func(l []int) ([]int, bool) {
			return impl.RerootTree(l, child)
		}))
	}
	return calls
}

func callsOfTreeNumber(n int) []call {
	of := fmt.Sprint(" of ", n)
	return []call{
		numberResult("CountTrees"+of, func() (int, bool) { return impl.CountTrees(n) }),
		listsResult("AllTrees"+of, func() ([][]int, bool) { return impl.AllTrees(n) }),
		listResult("CountByInversions"+of, func() ([]int, bool) { return impl.CountByInversions(n) }),
	}
}

// treesAndOthers has all lists of few numbers that are nodes or one more, and those that may be strange.
func treesAndOthers() [][]int {
	lists := append(strangeLists(), notTrees...)
	lists = append(lists, greatTrees...)
	for n := range 5 {
		eachList(n, n+2, func(list []int) { lists = append(lists, list) })
	}
	return lists
}

func TestAnyTrees(t *testing.T) {
	calls := append(callsOfOneTree(), rerootCalls()...)
	for _, list := range treesAndOthers() {
		for _, c := range calls {
			expectDecent(t, c, list)
		}
	}
}

func TestAnyNames(t *testing.T) {
	relabel := call{"RelabelTree", func(l ...[]int) result {
		list, ok := impl.RelabelTree(l[0], l[1])
		return result{lists: [][]int{list}, ok: ok}
	}}
	names := append(strangeLists(), []int{2, 1}, []int{1, 2}, []int{3, 1, 2}, []int{8, 7, 6, 5, 4, 3, 2, 1}, []int{9, 8, 7, 6, 5, 4, 3, 2, 1})
	for _, list := range treesAndOthers() {
		for _, called := range names {
			expectDecent(t, relabel, list, called)
		}
	}
}

func TestAnyTreeNumbers(t *testing.T) {
	for _, n := range append(strangeNumbers(), 4, 5, 6) {
		for _, c := range callsOfTreeNumber(n) {
			expectDecent(t, c)
		}
	}
}

func TestAnyTreeText(t *testing.T) {
	for first := range 256 {
		single := string([]byte{byte(first)})
		list, ok := impl.ParseTree(single)
		switch single {
		case "0":
			expectList(t, "parse 0", list, ok, []int{0})
		case "-":
			expectList(t, "parse -", list, ok, nil)
		default:
			expectNoList(t, fmt.Sprintf("parse %q", single), list, ok)
		}
		for second := range 256 {
			s := string([]byte{'0', byte(first), byte(second)})
			list, ok := impl.ParseTree(s)
			if s == "0,0" || s == "0,1" {
				expectList(t, fmt.Sprintf("parse %q", s), list, ok, []int{0, second - '0'})
			} else {
				expectNoList(t, fmt.Sprintf("parse %q", s), list, ok)
			}
			s = s[1:]
			list, ok = impl.ParseTree(s)
			expectNoList(t, fmt.Sprintf("parse %q", s), list, ok)
		}
	}
	first, _ := impl.ParseTree("0,1,0")
	scribble(first)
	second, ok := impl.ParseTree("0,1,0")
	expectList(t, "a second parse", second, ok, []int{0, 1, 0})
}
