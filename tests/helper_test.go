package tests

import (
	"math"
	"slices"
	"testing"
)

// guarded has numbers behind its length that no function may read, write or hand out.
func guarded(list []int) []int {
	whole := make([]int, len(list)+20)
	copy(whole, list)
	for i := len(list); i < len(whole); i++ {
		whole[i] = -7777
	}
	return whole[:len(list)]
}

func isIntact(arg []int, list []int) bool {
	if !slices.Equal(arg, list) {
		return false
	}
	for _, x := range arg[len(arg):cap(arg)] {
		if x != -7777 {
			return false
		}
	}
	return true
}

// scribble writes over all memory that a result has given out.
func scribble(list []int) {
	whole := list[:cap(list)]
	for i := range whole {
		whole[i] = 4242
	}
}

// eachList calls visit with each list of so many numbers in 0..bound - 1, in lexicographic order.
func eachList(length int, bound int, visit func(list []int)) {
	list := make([]int, length)
	var fill func(i int)
	fill = func(i int) {
		if i == length {
			visit(slices.Clone(list))
			return
		}
		for x := range bound {
			list[i] = x
			fill(i + 1)
		}
	}
	fill(0)
}

func sortedCopy(list []int) []int {
	c := slices.Clone(list)
	slices.Sort(c)
	return c
}

// strangeLists are values that a caller may pass although most functions have to refuse them.
func strangeLists() [][]int {
	return [][]int{
		nil, {}, {0}, {1}, {-1}, {2}, {99}, {100}, {0, 0}, {0, 1}, {1, 0}, {1, 1}, {0, -1}, {0, 99},
		{math.MinInt}, {math.MaxInt}, {0, math.MaxInt}, {math.MinInt, 0}, {1, 0, 1}, {1, 2, 2}, {2, 0, 1},
		{11}, {12}, {13}, {0, 11, 11}, {0, 0, 0, 0, 0, 0, 0, 0}, {7, 6, 5, 4, 3, 2, 1, 0}, {0, 1, 2, 3, 4, 5, 6, 7},
		{7, 7, 7, 7, 7, 7, 7, 7}, {0, 0, 0, 0, 0, 0, 0, 8}, make([]int, 9), make([]int, 13), make([]int, 1000),
	}
}

func strangeNumbers() []int {
	return []int{math.MinInt, -100, -1, 0, 1, 2, 3, 8, 9, 11, 12, 13, 100, 1 << 40, math.MaxInt}
}

func expectList(t *testing.T, what string, got []int, ok bool, want []int) {
	t.Helper()
	if !ok || !slices.Equal(got, want) {
		t.Errorf("%s: got %v, %v, want %v", what, got, ok, want)
	}
}

func expectNoList(t *testing.T, what string, got []int, ok bool) {
	t.Helper()
	if ok || len(got) != 0 {
		t.Errorf("%s: got %v, %v, want a failure with no list", what, got, ok)
	}
}

func expectNumber(t *testing.T, what string, got int, ok bool, want int) {
	t.Helper()
	if !ok || got != want {
		t.Errorf("%s: got %v, %v, want %v", what, got, ok, want)
	}
}

func expectNoNumber(t *testing.T, what string, got int, ok bool) {
	t.Helper()
	if ok || got != 0 {
		t.Errorf("%s: got %v, %v, want a failure with 0", what, got, ok)
	}
}

func expectAnswer(t *testing.T, what string, got bool, ok bool, want bool) {
	t.Helper()
	if !ok || got != want {
		t.Errorf("%s: got %v, %v, want %v", what, got, ok, want)
	}
}

func expectNoAnswer(t *testing.T, what string, got bool, ok bool) {
	t.Helper()
	if ok || got {
		t.Errorf("%s: got %v, %v, want a failure with false", what, got, ok)
	}
}
