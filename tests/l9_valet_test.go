package tests

import (
	"fmt"
	"math"
	"slices"
	"testing"

	"loop.example/g01115/impl"
)

// Numbers that can be no greatest distance.
var notMost = []int{-1, 9, 10, 100, math.MaxInt, math.MinInt}

// Lists that have no car twice and leave none out, as the indices of three cars.
var notOrders = [][]int{
	nil, {}, {0}, {0, 1}, {1, 0}, {0, 0, 1}, {0, 1, 1}, {2, 2, 2}, {0, 1, 3}, {1, 2, 3}, {-1, 0, 1}, {0, 1, -1}, {0, 1, 2, 3}, {3, 2, 1, 0}, {0, 1, 2, 0},
	{0, 1, math.MaxInt}, {math.MinInt, 1, 2}, numbersByHand(8), make([]int, 9), make([]int, 1000),
}

// Blocks that are empty, have a car twice, leave one out, have one that is not there or too many cars, or belong to no unit parking function.
var notBlocks = [][][]int{
	{{}}, {nil}, {{}, {0}}, {{0}, {}}, {{0}, nil, {1}}, {{0, 1}, {}}, make([][]int, 8), make([][]int, 9), make([][]int, 1000),
	{{0, 0}}, {{0}, {0}}, {{0, 1}, {1}}, {{0, 1}, {1, 2}}, {{1}, {0, 1}}, {{0}, {1}, {0}},
	{{1}}, {{0, 2}}, {{0}, {2}}, {{2}, {0}}, {{1, 2}}, {{0, 1}, {3}}, {{-1}}, {{0, -1}}, {{-1}, {0}}, {{8}}, {{0, 1, 2, 3, 4, 5, 6, 8}},
	{{math.MaxInt}}, {{math.MinInt}, {0}}, {{0, math.MaxInt}}, {{0}, {math.MinInt}},
	{{1, 0}}, {{0, 2, 1}}, {{1, 0, 2}}, {{2, 1, 0}}, {{0}, {2, 1}}, {{2, 1}, {0}}, {{0, 1}, {3, 2}}, {{7, 6, 5, 4, 3, 2, 1, 0}}, {{0, 1, 2, 3, 4, 5, 7, 6}},
	{numbersByHand(9)}, {numbersByHand(8), {8}}, {{0, 1, 2, 3}, {4, 5, 6, 7, 8}}, {make([]int, 9)}, {make([]int, 1000)}, {numbersByHand(8), numbersByHand(8)},
	{{0}, {1}, {2}, {3}, {4}, {5}, {6}, {7}, {8}}, {{0}, {1}, {2}, {3}, {4}, {5}, {6}, {7}, {}},
}

func cutsByHand(list []int) []int {
	var cuts []int
	for j := 1; j < len(list); j++ {
		if len(list)-atLeast(list, j) == j {
			cuts = append(cuts, j)
		}
	}
	return cuts
}

// isPrimeByHand takes a car away whose favourite is the first place: without it just prime parking functions still are parking functions.
func isPrimeByHand(list []int) bool {
	first := slices.Index(list, 0)
	if first < 0 {
		return false
	}
	return isParkingByHand(slices.Delete(slices.Clone(list), first, first+1))
}

func primePartsByHand(list []int) [][]int {
	var all [][]int
	begin := 0
	for _, end := range append(cutsByHand(list), len(list)) {
		var part []int
		for _, x := range list {
			if x >= begin && x < end {
				part = append(part, x-begin)
			}
		}
		if end > begin {
			all = append(all, part)
		}
		begin = end
	}
	return all
}

func distancesByHand(list []int, places int) []int {
	distances := drivenByHand(list, places)
	for car, favourite := range list {
		distances[car] -= favourite
	}
	return distances
}

func greatestByHand(list []int, places int) int {
	return slices.Max(append(distancesByHand(list, places), 0))
}

func fairByHand(list []int) []int {
	var order []int
	for favourite := range 12 {
		for car, x := range list {
			if x == favourite {
				order = append(order, car)
			}
		}
	}
	return order
}

// blocksByHand is for unit parking functions for most = 1.
func blocksByHand(list []int) [][]int {
	var blocks [][]int
	for i, car := range fairByHand(list) {
		if list[car] == i {
			blocks = append(blocks, nil)
		}
		blocks[len(blocks)-1] = append(blocks[len(blocks)-1], car)
	}
	return blocks
}

// eachBlocks visits all divisions of so many cars into blocks, each in any order, of which most belong to no unit parking function.
func eachBlocks(cars int, visit func(blocks [][]int)) {
	eachKeyOrder(numbersByHand(cars), func(order []int) {
		for ends := range 1 << max(cars-1, 0) {
			var blocks [][]int
			begin := 0
			for i := range order {
				if ends>>i&1 == 1 || i == cars-1 {
					blocks = append(blocks, slices.Clone(order[begin:i+1]))
					begin = i + 1
				}
			}
			visit(blocks)
		}
	})
}

func reorderedByHand(list []int, order []int) []int {
	var again []int
	for _, car := range order {
		again = append(again, list[car])
	}
	return again
}

func waitsByHand(list []int, places int) []int {
	taken := make([]bool, places)
	waits := make([]int, places)
	for _, place := range list {
		for taken[place] {
			waits[place]++
			place++
		}
		taken[place] = true
	}
	return waits
}

// eachSomeParking visits all parking functions of up to 6 cars, and some of 8.
func eachSomeParking(visit func(list []int)) {
	for n := range 7 {
		for _, list := range parkingFunctions(n) {
			visit(list)
		}
	}
	for _, list := range greatParking() {
		visit(list)
	}
}

// eachParkedStreet visits favourites with which all cars park.
func eachParkedStreet(visit func(list []int, places int)) {
	parked := func(list []int, places int) {
		if !slices.Contains(drivenByHand(list, places), -1) {
			visit(list, places)
		}
	}
	eachStreet(parked)
	eachFullStreet(parked)
}

func TestValetExamples(t *testing.T) {
	cuts, ok := impl.CutsOf([]int{0, 0, 2})
	expectList(t, "cuts of 0, 0, 2", cuts, ok, []int{2})
	parts, ok := impl.PrimeParts([]int{0, 0, 2})
	expectLists(t, "parts of 0, 0, 2", parts, ok, [][]int{{0, 0}, {0}})
	count, ok := impl.CountPrime(3)
	expectNumber(t, "prime ones of 3", count, ok, 4)
	count, ok = impl.CountUnit(3, 1)
	expectNumber(t, "unit ones of 3", count, ok, 13)
	blocks, ok := impl.UnitBlocks([]int{0, 2, 0})
	expectLists(t, "blocks of 0, 2, 0", blocks, ok, [][]int{{0, 2}, {1}})
	list, ok := impl.FromUnitBlocks([][]int{{0, 2}, {1}})
	expectList(t, "from the blocks of 0, 2, 0", list, ok, []int{0, 2, 0})
}

func TestIsPrime(t *testing.T) {
	eachSomeParking(func(list []int) {
		got, ok := impl.IsPrime(list)
		expectAnswer(t, fmt.Sprint("prime ", list), got, ok, isPrimeByHand(list))
	})
	for _, c := range []struct {
		list []int
		want bool
	}{
		{nil, false}, {[]int{}, false}, {[]int{0}, true}, {[]int{0, 0}, true}, {[]int{0, 1}, false}, {[]int{1, 0}, false}, {[]int{1, 0, 0}, true}, {[]int{0, 2, 0}, false}, {[]int{1, 0, 1}, false},
		{make([]int, 8), true}, {[]int{6, 5, 4, 3, 2, 1, 0, 0}, true}, {[]int{7, 0, 0, 0, 0, 0, 0, 0}, false}, {[]int{6, 6, 4, 3, 2, 1, 0, 0}, false}, {numbersByHand(8), false}, {[]int{0, 1, 1, 1, 1, 1, 1, 1}, false},
	} {
		got, ok := impl.IsPrime(c.list)
		expectAnswer(t, fmt.Sprint("prime ", c.list), got, ok, c.want)
	}
}

func expectParts(t *testing.T, list []int) {
	t.Helper()
	what := fmt.Sprint("parts of ", list)
	got, ok := impl.PrimeParts(list)
	expectLists(t, what, got, ok, primePartsByHand(list))
	var joined []int
	for _, part := range got {
		if !isParkingByHand(part) || !isPrimeByHand(part) {
			t.Errorf("%s: %v is no prime parking function", what, part)
		}
		joined, ok = impl.JoinParking(joined, part)
		if !ok {
			t.Errorf("%s cannot be joined: %v", what, got)
		}
	}
	if !slices.Equal(sortedCopy(joined), sortedCopy(list)) || !slices.Equal(cutsByHand(joined), cutsByHand(list)) {
		t.Errorf("%s are joined to %v", what, joined)
	}
}

// Promise 9: parking functions have prime parts.
func TestParkingFunctionsHavePrimeParts(t *testing.T) {
	eachSomeParking(func(list []int) { expectParts(t, list) })
	for _, c := range []struct {
		list []int
		want [][]int
	}{
		{nil, nil}, {[]int{0}, [][]int{{0}}}, {[]int{0, 0}, [][]int{{0, 0}}}, {[]int{1, 0}, [][]int{{0}, {0}}}, {[]int{2, 0, 0}, [][]int{{0, 0}, {0}}}, {[]int{1, 0, 1}, [][]int{{0}, {0, 0}}},
		{[]int{3, 1, 0, 0}, [][]int{{1, 0, 0}, {0}}}, {[]int{4, 1, 3, 0, 3, 1}, [][]int{{0}, {0, 0}, {1, 0, 0}}},
		{make([]int, 8), [][]int{make([]int, 8)}}, {[]int{7, 6, 5, 4, 3, 2, 1, 0}, [][]int{{0}, {0}, {0}, {0}, {0}, {0}, {0}, {0}}}, {[]int{6, 0, 6, 0, 4, 2, 4, 2}, [][]int{{0, 0}, {0, 0}, {0, 0}, {0, 0}}},
		{[]int{7, 5, 4, 3, 2, 1, 0, 0}, [][]int{{5, 4, 3, 2, 1, 0, 0}, {0}}}, {[]int{0, 6, 5, 4, 3, 2, 1, 1}, [][]int{{0}, {5, 4, 3, 2, 1, 0, 0}}}, {[]int{3, 0, 3, 4, 0, 3, 7, 1}, [][]int{{0, 0, 1}, {0, 0, 1, 0}, {0}}},
	} {
		got, ok := impl.PrimeParts(c.list)
		expectLists(t, fmt.Sprint("parts of ", c.list), got, ok, c.want)
	}
}

func TestCountAndListPrime(t *testing.T) {
	for n, want := range []int{0, 1, 1, 4, 27, 256, 3125, 46656, 823543} {
		if n == 0 {
			continue
		}
		count, ok := impl.CountPrime(n)
		expectNumber(t, fmt.Sprint("prime ones of ", n), count, ok, want)
		all, ok := impl.AllPrime(n)
		if n > 5 {
			expectNoLists(t, fmt.Sprint("all prime ones of ", n), all, ok)
			continue
		}
		primes := slices.DeleteFunc(parkingFunctions(n), func(list []int) bool { return !isPrimeByHand(list) })
		expectLists(t, fmt.Sprint("all prime ones of ", n), all, ok, primes)
		expectNumber(t, fmt.Sprint("listed prime ones of ", n), len(all), true, want)
	}
	all, ok := impl.AllPrime(1)
	expectLists(t, "all prime ones of 1", all, ok, [][]int{{0}})
	all, ok = impl.AllPrime(3)
	expectLists(t, "all prime ones of 3", all, ok, [][]int{{0, 0, 0}, {0, 0, 1}, {0, 1, 0}, {1, 0, 0}})
	for _, n := range append(slices.Clone(notCarNumbers), 0) {
		count, ok := impl.CountPrime(n)
		expectNoNumber(t, fmt.Sprint("prime ones of ", n), count, ok)
		all, ok := impl.AllPrime(n)
		expectNoLists(t, fmt.Sprint("all prime ones of ", n), all, ok)
	}
}

func expectUnit(t *testing.T, list []int) {
	t.Helper()
	greatest := greatestByHand(list, len(list))
	for most := range 9 {
		got, ok := impl.IsUnit(list, most)
		expectAnswer(t, fmt.Sprint(list, " is a unit one for ", most), got, ok, greatest <= most)
	}
}

func TestIsUnit(t *testing.T) {
	eachSomeParking(func(list []int) { expectUnit(t, list) })
	for _, c := range []struct {
		list []int
		most int
		want bool
	}{
		{nil, 0, true}, {nil, 8, true}, {[]int{0}, 0, true}, {[]int{0}, 8, true}, {[]int{0, 0}, 0, false}, {[]int{0, 0}, 1, true}, {[]int{0, 2, 0}, 1, true}, {[]int{0, 1, 0}, 1, false}, {[]int{0, 1, 0}, 2, true}, {[]int{1, 0}, 0, true},
		{make([]int, 8), 6, false}, {make([]int, 8), 7, true}, {make([]int, 8), 8, true}, {numbersByHand(8), 0, true}, {[]int{7, 6, 5, 4, 3, 2, 1, 0}, 0, true}, {[]int{0, 0, 1, 2, 3, 4, 5, 6}, 1, true}, {[]int{0, 0, 1, 2, 3, 4, 5, 6}, 0, false}, {[]int{0, 1, 2, 3, 4, 5, 6, 0}, 6, false}, {[]int{0, 1, 2, 3, 4, 5, 6, 0}, 7, true},
	} {
		got, ok := impl.IsUnit(c.list, c.most)
		expectAnswer(t, fmt.Sprint(c.list, " is a unit one for ", c.most), got, ok, c.want)
	}
	for _, most := range notMost {
		for _, list := range [][]int{nil, {0}, {0, 0}, make([]int, 8), numbersByHand(8)} {
			got, ok := impl.IsUnit(list, most)
			expectNoAnswer(t, fmt.Sprint(list, " is a unit one for ", most), got, ok)
		}
	}
}

func TestCountUnit(t *testing.T) {
	for n := range 6 {
		greatest := make([]int, 9)
		for _, list := range parkingFunctions(n) {
			greatest[greatestByHand(list, n)]++
		}
		for most := range 9 {
			count, ok := impl.CountUnit(n, most)
			expectNumber(t, fmt.Sprint("unit ones of ", n, " for ", most), count, ok, sumOf(greatest[:most+1]))
		}
	}
	for most, want := range [][]int{{1, 1, 2, 6, 24, 120}, {1, 1, 3, 13, 75, 541}} {
		for n := range want {
			count, ok := impl.CountUnit(n, most)
			expectNumber(t, fmt.Sprint("unit ones of ", n, " for ", most), count, ok, want[n])
		}
	}
	for _, c := range [][3]int{{0, 8, 1}, {1, 8, 1}, {2, 8, 3}, {5, 4, 1296}, {5, 8, 1296}, {5, 3, 1171}, {3, 2, 16}, {4, 3, 125}} {
		count, ok := impl.CountUnit(c[0], c[1])
		expectNumber(t, fmt.Sprint("unit ones of ", c[0], " for ", c[1]), count, ok, c[2])
	}
	for _, n := range []int{-1, 6, 7, 8, 9, math.MaxInt, math.MinInt} {
		for most := range 9 {
			count, ok := impl.CountUnit(n, most)
			expectNoNumber(t, fmt.Sprint("unit ones of ", n, " for ", most), count, ok)
		}
	}
	for _, most := range notMost {
		for n := range 6 {
			count, ok := impl.CountUnit(n, most)
			expectNoNumber(t, fmt.Sprint("unit ones of ", n, " for ", most), count, ok)
		}
	}
}

func expectBlocks(t *testing.T, list []int) {
	t.Helper()
	what := fmt.Sprint("blocks of ", list)
	got, ok := impl.UnitBlocks(list)
	if greatestByHand(list, len(list)) > 1 {
		expectNoLists(t, what, got, ok)
		return
	}
	expectLists(t, what, got, ok, blocksByHand(list))
	back, ok := impl.FromUnitBlocks(got)
	expectList(t, "from "+what, back, ok, list)
}

func TestUnitBlocks(t *testing.T) {
	eachSomeParking(func(list []int) { expectBlocks(t, list) })
	for _, c := range []struct {
		list []int
		want [][]int
	}{
		{nil, nil}, {[]int{0}, [][]int{{0}}}, {[]int{0, 0}, [][]int{{0, 1}}}, {[]int{0, 1}, [][]int{{0}, {1}}}, {[]int{1, 0}, [][]int{{1}, {0}}}, {[]int{1, 0, 1}, [][]int{{1}, {0, 2}}}, {[]int{0, 0, 1}, [][]int{{0, 1, 2}}},
		{[]int{2, 0, 2, 0}, [][]int{{1, 3}, {0, 2}}}, {[]int{3, 0, 0, 3, 1}, [][]int{{1, 2, 4}, {0, 3}}},
		{numbersByHand(8), [][]int{{0}, {1}, {2}, {3}, {4}, {5}, {6}, {7}}}, {[]int{7, 6, 5, 4, 3, 2, 1, 0}, [][]int{{7}, {6}, {5}, {4}, {3}, {2}, {1}, {0}}}, {[]int{0, 0, 1, 2, 3, 4, 5, 6}, [][]int{numbersByHand(8)}}, {[]int{6, 4, 2, 0, 6, 4, 2, 0}, [][]int{{3, 7}, {2, 6}, {1, 5}, {0, 4}}},
	} {
		expectBlocks(t, c.list)
		got, ok := impl.UnitBlocks(c.list)
		expectLists(t, fmt.Sprint("blocks of ", c.list), got, ok, c.want)
	}
	for _, list := range [][]int{{0, 0, 0}, {0, 1, 0}, {1, 0, 0}, {0, 0, 1, 1}, {0, 1, 2, 3, 4, 5, 6, 0}, make([]int, 8)} {
		got, ok := impl.UnitBlocks(list)
		expectNoLists(t, fmt.Sprint("blocks of ", list), got, ok)
	}
}

// Just the blocks in which the cars come in their order belong to a unit parking function, as there are as many of both.
func TestFromUnitBlocks(t *testing.T) {
	for cars, want := range []int{1, 1, 3, 13, 75, 541, 4683} {
		found := 0
		eachBlocks(cars, func(blocks [][]int) {
			what := fmt.Sprint("from the blocks ", blocks)
			got, ok := impl.FromUnitBlocks(blocks)
			for _, block := range blocks {
				if !slices.IsSorted(block) {
					expectNoList(t, what, got, ok)
					return
				}
			}
			found++
			if !ok || !isParkingByHand(got) || len(got) != cars || greatestByHand(got, cars) > 1 || !slices.EqualFunc(blocksByHand(got), blocks, slices.Equal) {
				t.Errorf("%s: got %v, %v", what, got, ok)
			}
		})
		expectNumber(t, fmt.Sprint("lists from blocks of ", cars), found, true, want)
	}
	for _, c := range []struct {
		blocks [][]int
		want   []int
	}{
		{nil, nil}, {[][]int{}, nil}, {[][]int{{0}}, []int{0}}, {[][]int{{1}, {0}}, []int{1, 0}}, {[][]int{{0, 1, 2}}, []int{0, 0, 1}}, {[][]int{numbersByHand(8)}, []int{0, 0, 1, 2, 3, 4, 5, 6}},
		{[][]int{{7}, {6}, {5}, {4}, {3}, {2}, {1}, {0}}, []int{7, 6, 5, 4, 3, 2, 1, 0}}, {[][]int{{7}, {0, 1, 2, 3, 4, 5, 6}}, []int{1, 1, 2, 3, 4, 5, 6, 0}}, {[][]int{{1, 4, 6}, {0}, {2, 3, 5, 7}}, []int{3, 0, 4, 4, 0, 5, 1, 6}},
	} {
		got, ok := impl.FromUnitBlocks(c.blocks)
		expectList(t, fmt.Sprint("from the blocks ", c.blocks), got, ok, c.want)
	}
	for _, blocks := range notBlocks {
		got, ok := impl.FromUnitBlocks(blocks)
		expectNoList(t, fmt.Sprint("from the blocks ", blocks), got, ok)
	}
}

func TestNoPrimeAndUnitLists(t *testing.T) {
	for _, list := range notParking {
		what := fmt.Sprint(" ", list)
		answer, ok := impl.IsPrime(list)
		expectNoAnswer(t, "prime"+what, answer, ok)
		lists, ok := impl.PrimeParts(list)
		expectNoLists(t, "parts of"+what, lists, ok)
		for most := range 9 {
			answer, ok = impl.IsUnit(list, most)
			expectNoAnswer(t, "unit"+what, answer, ok)
		}
		lists, ok = impl.UnitBlocks(list)
		expectNoLists(t, "blocks of"+what, lists, ok)
	}
}

func TestReorderCars(t *testing.T) {
	for cars := range 5 {
		eachList(cars, 5, func(list []int) {
			eachKeyOrder(numbersByHand(cars), func(order []int) {
				got, ok := impl.ReorderCars(list, order)
				expectList(t, fmt.Sprint(list, " in the order ", order), got, ok, reorderedByHand(list, order))
			})
		})
	}
	for _, c := range []struct{ list, order, want []int }{
		{nil, nil, nil}, {[]int{}, nil, nil}, {[]int{5}, []int{0}, []int{5}}, {[]int{11}, []int{0}, []int{11}}, {[]int{3, 5, 7}, []int{0, 1, 2}, []int{3, 5, 7}}, {[]int{3, 5, 7}, []int{1, 2, 0}, []int{5, 7, 3}}, {[]int{2, 2, 2}, []int{2, 0, 1}, []int{2, 2, 2}},
		{[]int{4, 5, 6, 7, 8, 9, 10, 11}, []int{7, 6, 5, 4, 3, 2, 1, 0}, []int{11, 10, 9, 8, 7, 6, 5, 4}}, {[]int{11, 11, 11, 11, 11, 11, 11, 11}, numbersByHand(8), []int{11, 11, 11, 11, 11, 11, 11, 11}}, {[]int{4, 5, 6, 7, 8, 9, 10, 11}, []int{1, 2, 3, 4, 5, 6, 7, 0}, []int{5, 6, 7, 8, 9, 10, 11, 4}},
	} {
		got, ok := impl.ReorderCars(c.list, c.order)
		expectList(t, fmt.Sprint(c.list, " in the order ", c.order), got, ok, c.want)
	}
	for _, order := range notOrders {
		for _, list := range [][]int{{0, 0, 0}, {0, 1, 2}, {11, 0, 11}} {
			got, ok := impl.ReorderCars(list, order)
			expectNoList(t, fmt.Sprint(list, " in the order ", order), got, ok)
		}
	}
	for _, c := range []struct{ list, order []int }{
		{nil, []int{0}}, {[]int{0}, nil}, {[]int{0}, []int{1}}, {[]int{0}, []int{-1}}, {make([]int, 8), []int{0, 1, 2, 3, 4, 5, 6, 8}}, {make([]int, 8), []int{0, 1, 2, 3, 4, 5, 6, 6}}, {make([]int, 8), numbersByHand(7)}, {make([]int, 7), numbersByHand(8)},
		{make([]int, 9), numbersByHand(9)}, {[]int{12}, []int{0}}, {[]int{-1}, []int{0}}, {[]int{0, 12}, []int{1, 0}}, {[]int{-1, 0}, []int{0, 1}}, {[]int{math.MaxInt}, []int{0}}, {[]int{0, math.MinInt}, []int{1, 0}},
	} {
		got, ok := impl.ReorderCars(c.list, c.order)
		expectNoList(t, fmt.Sprint(c.list, " in the order ", c.order), got, ok)
	}
}

type valet struct {
	least, greatest, lucky int
}

// valetByHand tries all orders.
func valetByHand(list []int, places int) valet {
	v := valet{least: places}
	eachKeyOrder(numbersByHand(len(list)), func(order []int) {
		distances := distancesByHand(reorderedByHand(list, order), places)
		greatest, lucky := 0, 0
		for _, distance := range distances {
			greatest = max(greatest, distance)
			if distance == 0 {
				lucky++
			}
		}
		v = valet{min(v.least, greatest), max(v.greatest, greatest), max(v.lucky, lucky)}
	})
	return v
}

func expectValet(t *testing.T, list []int, places int, want valet) {
	t.Helper()
	what := fmt.Sprint(" of ", list, " on ", places)
	least, ok := impl.LeastGreatest(list, places)
	expectNumber(t, "least greatest"+what, least, ok, want.least)
	lucky, ok := impl.MostLucky(list, places)
	expectNumber(t, "most lucky"+what, lucky, ok, want.lucky)
	greatest, ok := impl.GreatestGreatest(list, places)
	if len(list) > 6 {
		expectNoNumber(t, "greatest greatest"+what, greatest, ok)
	} else {
		expectNumber(t, "greatest greatest"+what, greatest, ok, want.greatest)
	}
}

func expectFair(t *testing.T, list []int, places int, least int) {
	t.Helper()
	what := fmt.Sprint("fair order of ", list, " on ", places)
	order, ok := impl.FairOrder(list, places)
	expectList(t, what, order, ok, fairByHand(list))
	fair, ok := impl.ReorderCars(list, order)
	if !ok || !slices.IsSorted(fair) || greatestByHand(fair, places) != least {
		t.Errorf("%s: got %v, so that the favourites are %v, with a greatest distance that is not %d", what, order, fair, least)
	}
}

// Promise 9: no order of the cars has a less greatest distance than that by favourites.
func TestNoOrderHasLessGreatestDistanceThanFairOne(t *testing.T) {
	eachStreet(func(list []int, places int) {
		if slices.Contains(drivenByHand(list, places), -1) {
			return
		}
		want := valetByHand(list, places)
		expectValet(t, list, places, want)
		expectFair(t, list, places, want.least)
	})
	seen := 0
	eachFullStreet(func(list []int, places int) {
		if slices.Contains(drivenByHand(list, places), -1) {
			return
		}
		seen++
		if len(list) == 6 && seen%5 == 0 || len(list) == 7 && seen%20 == 0 || len(list) == 8 && seen%160 == 0 {
			want := valetByHand(list, places)
			expectValet(t, list, places, want)
			expectFair(t, list, places, want.least)
		}
	})
}

// Six cars are the most whose orders are all tried; the seventh one makes GreatestGreatest alone fail.
func TestValetOfManyCars(t *testing.T) {
	for _, c := range []struct {
		list   []int
		places int
		want   valet
	}{
		{nil, 1, valet{}}, {nil, 12, valet{}}, {[]int{0}, 1, valet{0, 0, 1}}, {[]int{11}, 12, valet{0, 0, 1}}, {[]int{0, 0, 1}, 3, valet{1, 2, 2}}, {[]int{0, 0, 1}, 12, valet{1, 2, 2}}, {[]int{1, 0, 1}, 3, valet{1, 1, 2}}, {[]int{5, 5, 2, 4, 4}, 9, valet{2, 3, 3}},
		{make([]int, 6), 6, valet{5, 5, 1}}, {make([]int, 6), 12, valet{5, 5, 1}}, {[]int{0, 0, 1, 2, 3, 4}, 6, valet{1, 5, 5}}, {[]int{0, 1, 2, 3, 4, 4}, 6, valet{1, 1, 5}}, {[]int{4, 3, 2, 1, 0, 0}, 12, valet{1, 5, 5}}, {numbersByHand(6), 6, valet{0, 0, 6}}, {[]int{6, 6, 6, 6, 6, 6}, 12, valet{5, 5, 1}},
		{make([]int, 7), 7, valet{least: 6, lucky: 1}}, {numbersByHand(7), 12, valet{lucky: 7}}, {make([]int, 8), 8, valet{least: 7, lucky: 1}}, {make([]int, 8), 12, valet{least: 7, lucky: 1}}, {numbersByHand(8), 8, valet{lucky: 8}}, {[]int{6, 5, 4, 3, 2, 1, 0, 0}, 8, valet{least: 1, lucky: 7}},
	} {
		expectValet(t, c.list, c.places, c.want)
		expectFair(t, c.list, c.places, c.want.least)
	}
}

func expectWaits(t *testing.T, list []int, places int) {
	t.Helper()
	what := fmt.Sprint("waits of ", list, " on ", places)
	got, ok := impl.WaitsOf(list, places)
	expectList(t, what, got, ok, waitsByHand(list, places))
	total, ok := impl.TotalDistance(list, places)
	expectNumber(t, "sum of "+what, sumOf(got), ok, total)
}

func TestWaits(t *testing.T) {
	eachParkedStreet(func(list []int, places int) { expectWaits(t, list, places) })
	for _, c := range []struct {
		list   []int
		places int
		want   []int
	}{
		{nil, 1, []int{0}}, {nil, 12, make([]int, 12)}, {[]int{0}, 1, []int{0}}, {[]int{2}, 4, []int{0, 0, 0, 0}}, {[]int{0, 0}, 2, []int{1, 0}}, {[]int{1, 0}, 2, []int{0, 0}}, {[]int{0, 1, 0}, 3, []int{1, 1, 0}}, {[]int{5, 5, 2, 4, 4}, 9, []int{0, 0, 0, 0, 1, 2, 1, 0, 0}},
		{make([]int, 8), 8, []int{7, 6, 5, 4, 3, 2, 1, 0}}, {[]int{4, 4, 4, 4, 4, 4, 4, 4}, 12, []int{0, 0, 0, 0, 7, 6, 5, 4, 3, 2, 1, 0}}, {numbersByHand(8), 12, make([]int, 12)}, {[]int{0, 1, 2, 3, 4, 5, 6, 0}, 8, []int{1, 1, 1, 1, 1, 1, 1, 0}}, {[]int{0, 0, 1, 2, 3, 4, 5, 6}, 8, []int{1, 1, 1, 1, 1, 1, 1, 0}},
	} {
		got, ok := impl.WaitsOf(c.list, c.places)
		expectList(t, fmt.Sprint("waits of ", c.list, " on ", c.places), got, ok, c.want)
	}
}

func expectNoValet(t *testing.T, list []int, places int) {
	t.Helper()
	what := fmt.Sprint(" of ", list, " on ", places)
	number, ok := impl.LeastGreatest(list, places)
	expectNoNumber(t, "least greatest"+what, number, ok)
	number, ok = impl.GreatestGreatest(list, places)
	expectNoNumber(t, "greatest greatest"+what, number, ok)
	number, ok = impl.MostLucky(list, places)
	expectNoNumber(t, "most lucky"+what, number, ok)
	got, ok := impl.FairOrder(list, places)
	expectNoList(t, "fair order"+what, got, ok)
	got, ok = impl.WaitsOf(list, places)
	expectNoList(t, "waits"+what, got, ok)
}

func TestNoValet(t *testing.T) {
	for _, c := range notFavourites {
		expectNoValet(t, c.list, c.places)
	}
	eachStreet(func(list []int, places int) {
		if slices.Contains(drivenByHand(list, places), -1) {
			expectNoValet(t, list, places)
		}
	})
	for _, c := range []struct {
		list   []int
		places int
	}{
		{[]int{11, 11}, 12}, {[]int{5, 5, 5, 5, 5, 5, 5, 5}, 12}, {[]int{7, 7, 7, 7, 7, 7}, 12}, {make([]int, 8), 7}, {make([]int, 7), 6}, {numbersByHand(8), 7}, {[]int{1, 1}, 2}, {[]int{0, 0}, 1},
	} {
		expectNoValet(t, c.list, c.places)
	}
}
