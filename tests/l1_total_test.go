package tests

import (
	"fmt"
	"slices"
	"testing"

	"loop.example/g01115/impl"
)

type result struct {
	lists  [][]int // all slices that a call returns
	number int
	second int // of calls that return two numbers
	answer bool
	text   string
	ok     bool
}

// A call has a name, and lists as its only arguments; what else a function takes is bound.
type call struct {
	name string
	run  func(lists ...[]int) result
}

func listCall(name string, f func([]int) ([]int, bool)) call {
	return call{name, func(l ...[]int) result {
		list, ok := f(l[0])
		return result{lists: [][]int{list}, ok: ok}
	}}
}

func numberCall(name string, f func([]int) (int, bool)) call {
	return call{name, func(l ...[]int) result {
		number, ok := f(l[0])
		return result{number: number, ok: ok}
	}}
}

func answerCall(name string, f func([]int) (bool, bool)) call {
	return call{name, func(l ...[]int) result {
		answer, ok := f(l[0])
		return result{answer: answer, ok: ok}
	}}
}

func callsOnStreet(places int) []call {
	on := fmt.Sprint(" on ", places)
	lists := func(name string, f func([]int, int) ([]int, bool)) call {
		return listCall(name+on, func(l []int) ([]int, bool) { return f(l, places) })
	}
	numbers := func(name string, f func([]int, int) (int, bool)) call {
		return numberCall(name+on, func(l []int) (int, bool) { return f(l, places) })
	}
	return []call{
		{"AreFavourites" + on, func(l ...[]int) result { return result{ok: impl.AreFavourites(l[0], places)} }},
		lists("DriveCars", impl.DriveCars),
		answerCall("DoAllPark"+on, func(l []int) (bool, bool) { return impl.DoAllPark(l, places) }),
		numbers("RefusingPlace", impl.RefusingPlace),
		lists("TakenPlaces", impl.TakenPlaces),
		lists("DistancesOf", impl.DistancesOf),
		numbers("TotalDistance", impl.TotalDistance),
		lists("LuckyCars", impl.LuckyCars),
	}
}

func callsOfOneList() []call {
	return []call{
		answerCall("IsParking", impl.IsParking),
		answerCall("SortedFits", impl.SortedFits),
		numberCall("CountWithOutcome", impl.CountWithOutcome),
		{"AllWithOutcome", func(l ...[]int) result {
			all, ok := impl.AllWithOutcome(l[0])
			return result{lists: all, ok: ok}
		}},
		listCall("CutsOf", impl.CutsOf),
		{"ParkText", func(l ...[]int) result {
			text, ok := impl.ParkText(l[0])
			return result{text: text, ok: ok}
		}},
	}
}

func callsOfTwoLists() []call {
	mix := func(low bool) call {
		return call{fmt.Sprint("MixOf ", low), func(l ...[]int) result {
			list, ok := impl.MixOf(l[0], l[1], low)
			return result{lists: [][]int{list}, ok: ok}
		}}
	}
	return []call{
		{"IsBelow", func(l ...[]int) result {
			answer, ok := impl.IsBelow(l[0], l[1])
			return result{answer: answer, ok: ok}
		}},
		mix(true),
		mix(false),
		{"JoinParking", func(l ...[]int) result {
			list, ok := impl.JoinParking(l[0], l[1])
			return result{lists: [][]int{list}, ok: ok}
		}},
	}
}

func cloneLists(lists [][]int) [][]int {
	var clones [][]int
	for _, list := range lists {
		clones = append(clones, slices.Clone(list))
	}
	return clones
}

func sameResult(a result, b result) bool {
	return slices.EqualFunc(a.lists, b.lists, slices.Equal) && a.number == b.number && a.second == b.second && a.answer == b.answer && a.text == b.text && a.ok == b.ok
}

// expectDecent holds for each call, whatever its arguments are.
func expectDecent(t *testing.T, c call, lists ...[]int) {
	t.Helper()
	what := fmt.Sprint(c.name, " ", lists)
	var args [][]int
	for _, list := range lists {
		args = append(args, guarded(list))
	}
	got := c.run(args...)
	if !got.ok {
		if got.number != 0 || got.second != 0 || got.answer || got.text != "" {
			t.Errorf("%s fails with %v, not with zero values", what, got)
		}
		for _, list := range got.lists {
			expectNoList(t, what, list, got.ok)
		}
	}
	before := got
	before.lists = cloneLists(got.lists)
	for i, list := range got.lists {
		scribble(list)
		for j, other := range got.lists {
			if j > i && !slices.Equal(other, before.lists[j]) {
				t.Errorf("%s: the slices %d and %d of the result share memory", what, i, j)
			}
		}
	}
	for i, arg := range args {
		if !isIntact(arg, lists[i]) {
			t.Errorf("%s: the argument %d was changed, or given out", what, i)
		}
	}
	if again := c.run(args...); !sameResult(before, again) {
		t.Errorf("%s: a second call returns %v, not %v", what, again, before)
	}
}

func TestAnyArguments(t *testing.T) {
	lists := strangeLists()
	eachStreet(func(list []int, places int) {
		if places == 3 {
			lists = append(lists, list)
		}
	})
	calls := callsOfOneList()
	for _, places := range strangeNumbers() {
		calls = append(calls, callsOnStreet(places)...)
	}
	for _, list := range lists {
		for _, c := range calls {
			expectDecent(t, c, list)
		}
	}
}

func TestAnyTwoLists(t *testing.T) {
	for _, c := range callsOfTwoLists() {
		for _, a := range strangeLists() {
			for _, b := range strangeLists() {
				expectDecent(t, c, a, b)
			}
		}
	}
}

func TestAnyText(t *testing.T) {
	for first := range 256 {
		for second := range 256 {
			s := string([]byte{byte(first), byte(second)})
			list, ok := impl.ParsePark(s)
			expectNoList(t, fmt.Sprintf("parse %q", s), list, ok)
			s = string([]byte{'0', byte(first), byte(second)})
			list, ok = impl.ParsePark(s)
			if s == "0 0" || s == "0 1" {
				expectList(t, fmt.Sprintf("parse %q", s), list, ok, []int{0, second - '0'})
			} else {
				expectNoList(t, fmt.Sprintf("parse %q", s), list, ok)
			}
		}
	}
	first, _ := impl.ParsePark("0 1 0")
	scribble(first)
	second, ok := impl.ParsePark("0 1 0")
	expectList(t, "a second parse", second, ok, []int{0, 1, 0})
}
