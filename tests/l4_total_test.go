package tests

import (
	"fmt"
	"testing"

	"loop.example/g01115/impl"
)

func walkResult(w impl.Walk, ok bool) result {
	return result{lists: [][]int{w.Heights, w.Labels}, ok: ok}
}

// walkCall makes a call whose two lists are the heights and the labels.
func walkCall(name string, f func(w impl.Walk) result) call {
	return call{name, func(l ...[]int) result { return f(walkOf(l[0], l[1])) }}
}

func callsOfWalks() []call {
	lists := func(name string, f func(impl.Walk) ([]int, bool)) call {
		return walkCall(name, func(w impl.Walk) result {
			list, ok := f(w)
			return result{lists: [][]int{list}, ok: ok}
		})
	}
	numbers := func(name string, f func(impl.Walk) (int, bool)) call {
		return walkCall(name, func(w impl.Walk) result {
			number, ok := f(w)
			return result{number: number, ok: ok}
		})
	}
	return []call{
		walkCall("IsWalk", func(w impl.Walk) result { return result{ok: impl.IsWalk(w)} }),
		lists("ParkingOfWalk", impl.ParkingOfWalk),
		numbers("AreaOf", impl.AreaOf),
		walkCall("PairsOf", func(w impl.Walk) result {
			pairs, ok := impl.PairsOf(w)
			return result{lists: pairs, ok: ok}
		}),
		numbers("PairCount", impl.PairCount),
		lists("ReadingOf", impl.ReadingOf),
		lists("TouchesOf", impl.TouchesOf),
		walkCall("WalkText", func(w impl.Walk) result {
			text, ok := impl.WalkText(w)
			return result{text: text, ok: ok}
		}),
	}
}

func callsOfHeights() []call {
	walks := func(name string, f func([]int) (impl.Walk, bool)) call {
		return call{name, func(l ...[]int) result { return walkResult(f(l[0])) }}
	}
	return []call{
		{"AreHeights", func(l ...[]int) result { return result{ok: impl.AreHeights(l[0])} }},
		walks("WalkOfParking", impl.WalkOfParking),
		numberCall("BounceOf", impl.BounceOf),
		numberCall("CountLabels", impl.CountLabels),
		walks("FirstLabels", impl.FirstLabels),
		listCall("TurnHeights", impl.TurnHeights),
	}
}

func callsOfWalkNumber(n int) []call {
	of := fmt.Sprint(" of ", n)
	return []call{
		numberResult("CountHeights"+of, func() (int, bool) { return impl.CountHeights(n) }),
		listsResult("AllHeights"+of, func() ([][]int, bool) { return impl.AllHeights(n) }),
		listsResult("SpreadOfWalks"+of, func() ([][]int, bool) { return impl.SpreadOfWalks(n) }),
	}
}

func TestAnyWalks(t *testing.T) {
	var walks []impl.Walk
	for _, heights := range strangeLists() {
		for _, labels := range strangeLists() {
			walks = append(walks, walkOf(heights, labels))
		}
	}
	walks = append(walks, notWalks()...)
	for n := range 5 {
		walks = append(walks, walksByHand(n)...)
	}
	for _, list := range greatParking()[:20] {
		walks = append(walks, walkOfByHand(list))
	}
	for _, c := range callsOfWalks() {
		for _, w := range walks {
			expectDecent(t, c, w.Heights, w.Labels)
		}
	}
}

func TestAnyHeights(t *testing.T) {
	lists := append(strangeLists(), notHeights...)
	for n := range 5 {
		eachList(n, n+1, func(list []int) { lists = append(lists, list) })
	}
	eachHeights(func(heights []int) { lists = append(lists, heights) })
	for _, c := range callsOfHeights() {
		for _, list := range lists {
			expectDecent(t, c, list)
		}
	}
}

func TestAnyWalkNumbers(t *testing.T) {
	for _, n := range append(strangeNumbers(), 4, 5, 6, 7) {
		for _, c := range callsOfWalkNumber(n) {
			expectDecent(t, c)
		}
	}
}

// A walk whose heights and labels are one list is a walk, too.
func TestOneListForBoth(t *testing.T) {
	numbers := guarded(numbersByHand(8))
	w := walkOf(numbers, numbers)
	list, ok := impl.ParkingOfWalk(w)
	expectList(t, "parking function of one list for both", list, ok, make([]int, 8))
	scribble(list)
	if !impl.IsWalk(w) || !isIntact(numbers, numbersByHand(8)) {
		t.Error("the list for both was changed, or given out")
	}
}

// eachOtherText visits each text in which one byte is taken away, another one or put in.
func eachOtherText(s string, visit func(s string)) {
	for i := range len(s) + 1 {
		for b := range 256 {
			visit(s[:i] + string([]byte{byte(b)}) + s[i:])
			if i < len(s) {
				visit(s[:i] + string([]byte{byte(b)}) + s[i+1:])
			}
		}
		if i < len(s) {
			visit(s[:i] + s[i+1:])
		}
	}
}

func TestAnyWalkText(t *testing.T) {
	walks := map[string]impl.Walk{}
	for n := range 4 {
		for _, w := range walksByHand(n) {
			walks[walkTextByHand(w)] = w
		}
	}
	for text := range walks {
		eachOtherText(text, func(s string) {
			got, ok := impl.ParseWalk(s)
			if w, isThere := walks[s]; isThere {
				expectWalk(t, fmt.Sprintf("parse %q", s), got, ok, w)
			} else {
				expectNoWalk(t, fmt.Sprintf("parse %q", s), got, ok)
			}
		})
	}
	expectDecent(t, call{"ParseWalk", func(...[]int) result { return walkResult(impl.ParseWalk("0,1,0:0,2,1")) }})
}
