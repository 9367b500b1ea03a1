package tests

import (
	"fmt"
	"math"
	"slices"
	"testing"

	"loop.example/g01115/impl"
)

// Lists that are no points: too many numbers, one that is too far from 0, or two whose difference is that of a plane.
var notPoints = [][]int{
	{0, 0}, {5, 5}, {100, 0}, {0, -100}, {50, -50}, {1, 2, 1}, {1, 102, 2}, {101, 7, 1}, {0, 30, 60, 90, -10, 20, 50, 80}, {0, 1, 2, 3, 4, 5, 6, 0}, {7, 6, 5, 4, 3, 2, 1, -93},
	{100001}, {-100001}, {0, 100001}, {-100001, 0}, {math.MaxInt}, {math.MinInt}, {math.MaxInt, math.MinInt}, {math.MinInt, math.MaxInt, 0},
	{8, 7, 6, 5, 4, 3, 2, 1, 0}, {0, 1, 2, 3, 4, 5, 6, 7, 8}, make([]int, 1000),
}

// Regions that are none: an order that has not each index once, or Far of another length, that falls, or that counts nothing.
var notRegions = []impl.Region{
	regionOf(nil, []int{0}), regionOf([]int{0}, nil), regionOf([]int{0, 1}, []int{0}), regionOf([]int{0}, []int{0, 0}), regionOf([]int{0, 1, 2}, []int{0, 0, 0, 0}),
	regionOf([]int{1}, []int{0}), regionOf([]int{-1}, []int{0}), regionOf([]int{0, 0}, []int{0, 0}), regionOf([]int{1, 1}, []int{0, 0}), regionOf([]int{1, 2}, []int{0, 0}), regionOf([]int{0, 2, 0}, []int{0, 0, 0}),
	regionOf([]int{0, -1}, []int{0, 0}), regionOf([]int{math.MaxInt, 0}, []int{0, 0}), regionOf([]int{math.MinInt}, []int{0}), regionOf([]int{0, 3, 1}, []int{0, 0, 0}),
	regionOf([]int{0}, []int{1}), regionOf([]int{0}, []int{-1}), regionOf([]int{0, 1}, []int{1, 1}), regionOf([]int{0, 1}, []int{0, -1}), regionOf([]int{0, 1}, []int{0, 2}), regionOf([]int{0, 1}, []int{-1, 0}), regionOf([]int{0, 1}, []int{-1, -1}),
	regionOf([]int{0, 1}, []int{0, math.MaxInt}), regionOf([]int{0, 1}, []int{math.MinInt, 0}), regionOf([]int{0, 1, 2}, []int{0, 1, 3}), regionOf([]int{0, 1, 2}, []int{0, 2, 2}),
	regionOf([]int{0, 1, 2}, []int{0, 1, 0}), regionOf([]int{0, 1, 2, 3}, []int{0, 1, 2, 1}), regionOf([]int{0, 1, 2}, []int{0, 0, -1}),
	regionOf([]int{1, 0}, []int{0, 1}), regionOf([]int{2, 0, 1}, []int{0, 0, 1}), regionOf([]int{0, 2, 1}, []int{0, 0, 2}), regionOf([]int{0, 2, 1}, []int{0, 1, 2}), regionOf([]int{1, 0, 2}, []int{0, 1, 1}),
	regionOf([]int{0, 1, 2, 3, 4, 5, 6, 7, 8}, make([]int, 9)), regionOf(make([]int, 9), make([]int, 9)), regionOf(make([]int, 1000), make([]int, 1000)),
	regionOf([]int{0, 1, 2, 3, 4, 5, 6, 7}, []int{0, 0, 0, 0, 0, 0, 0, 8}), regionOf([]int{7, 6, 5, 4, 3, 2, 1, 0}, []int{0, 0, 0, 0, 0, 0, 0, 1}), regionOf([]int{0, 1, 2, 3, 4, 5, 6, 6}, make([]int, 8)),
}

// Lists that are no sand: too many nodes, or grains outside their range.
var notSand = [][]int{
	{-1}, {61}, {0, 61}, {61, 0}, {-1, 0}, {0, -1}, {60, 60, 60, 60, 60, 60, 60, 61}, {-60}, {math.MaxInt}, {math.MinInt}, {1, math.MaxInt}, {math.MinInt, 1},
	make([]int, 9), make([]int, 1000), {1, 1, 1, 1, 1, 1, 1, 1, 1},
}

func regionOf(order []int, far []int) impl.Region {
	return impl.Region{Order: order, Far: far}
}

// isPointByHand looks at the two planes of each two indices.
func isPointByHand(x []int) bool {
	if len(x) > 8 {
		return false
	}
	for j, second := range x {
		if second < -100000 || second > 100000 {
			return false
		}
		for _, first := range x[:j] {
			if first == second || first == second+100 {
				return false
			}
		}
	}
	return true
}

func labelByHand(x []int) []int {
	label := make([]int, len(x))
	for i := range x {
		for j := range x {
			if j < i && x[j] > x[i]+100 || j > i && x[j] > x[i] {
				label[i]++
			}
		}
	}
	return label
}

// isEnoughByHand reports whether all that has to be counted for the place p is before the place f.
func isEnoughByHand(x []int, order []int, p int, f int) bool {
	for q := f; q < p; q++ {
		if order[q] < order[p] && x[order[q]] > x[order[p]]+100 {
			return false
		}
	}
	return true
}

func regionByHand(x []int) impl.Region {
	var order, far []int
	for range x {
		greatest := -1
		for i := range x {
			if !slices.Contains(order, i) && (greatest < 0 || x[i] > x[greatest]) {
				greatest = i
			}
		}
		order = append(order, greatest)
	}
	f := 0
	for p := range x {
		for !isEnoughByHand(x, order, p, f) {
			f++
		}
		far = append(far, f)
	}
	return regionOf(order, far)
}

func planesByHand(x []int, y []int) int {
	count := 0
	for j := range x {
		for i := range j {
			for _, by := range []int{0, 100} {
				if (x[i] > x[j]+by) != (y[i] > y[j]+by) {
					count++
				}
			}
		}
	}
	return count
}

// A bound is how great one number may be, compared with that at another place.
type bound struct {
	place, other, by int
}

func boundsByHand(far []int) []bound {
	var bounds []bound
	for p := range far {
		for q := range p {
			if q == p-1 {
				bounds = append(bounds, bound{p, q, -1})
			}
			if q < far[p] {
				bounds = append(bounds, bound{p, q, -101})
			} else {
				bounds = append(bounds, bound{q, p, 99})
			}
		}
	}
	return bounds
}

// areGreatestByHand reports whether numbers keep all bounds, and are as great as they can be: from the first place, each other one is reached by bounds that are met.
func areGreatestByHand(numbers []int, far []int) bool {
	reached := map[int]bool{0: true}
	for range numbers {
		for _, b := range boundsByHand(far) {
			if numbers[b.place] > numbers[b.other]+b.by {
				return false
			}
			if numbers[b.place] == numbers[b.other]+b.by && reached[b.other] {
				reached[b.place] = true
			}
		}
	}
	return len(numbers) == 0 || numbers[0] == 0 && len(reached) == len(numbers)
}

// numbersOfRegion are those of a point in the order of a region.
func numbersOfRegion(x []int, r impl.Region) []int {
	var numbers []int
	for _, index := range r.Order {
		numbers = append(numbers, x[index])
	}
	return numbers
}

// eachFar visits all lists that do not fall, with each number at most its index.
func eachFar(n int, visit func(far []int)) {
	var fill func(far []int, least int)
	fill = func(far []int, least int) {
		if len(far) == n {
			visit(slices.Clone(far))
			return
		}
		for f := least; f <= len(far); f++ {
			fill(append(slices.Clone(far), f), f)
		}
	}
	fill(nil, 0)
}

// isRegionByHand goes by the point to which the bounds of a region lead: this must have the region.
func isRegionByHand(r impl.Region) bool {
	x := pointByHand(r)
	return isPointByHand(x) && sameRegion(regionByHand(x), r)
}

// pointByHand lowers numbers one by one until all bounds are kept. It needs an order, and a list that eachFar visits.
func pointByHand(r impl.Region) []int {
	x := make([]int, len(r.Order))
	bounds := boundsByHand(r.Far)
	for i := 0; i < len(bounds); i++ {
		b := bounds[i]
		if place, other := r.Order[b.place], r.Order[b.other]; x[place] > x[other]+b.by {
			x[place] = x[other] + b.by
			i = -1
		}
	}
	return x
}

// regionsByHand returns all regions of points with n numbers.
func regionsByHand(n int) []impl.Region {
	var regions []impl.Region
	eachOrder(n, func(names []int) {
		var order []int
		for _, name := range names {
			order = append(order, name-1)
		}
		eachFar(n, func(far []int) {
			if r := regionOf(order, far); isRegionByHand(r) {
				regions = append(regions, r)
			}
		})
	})
	return regions
}

func sameRegion(a impl.Region, b impl.Region) bool {
	return slices.Equal(a.Order, b.Order) && slices.Equal(a.Far, b.Far)
}

// eachPoint visits points of up to 4 numbers with differences less than, near and greater than both of planes, and samples of up to 8.
func eachPoint(visit func(x []int)) {
	numbers := []int{-200, -101, -99, -60, -1, 0, 1, 45, 99, 100, 101, 199, 201, 300}
	for n := range 5 {
		eachList(n, len(numbers), func(x []int) {
			for i := range x {
				x[i] = numbers[x[i]]
			}
			if isPointByHand(x) {
				visit(x)
			}
		})
	}
	for n := 5; n <= 8; n++ {
		seed := n
		for sample := range 2000 {
			x := make([]int, n)
			for i := range x {
				seed = (seed*7141 + 54773) % 259200
				x[i] = seed % (150 + sample)
			}
			if isPointByHand(x) {
				visit(x)
			}
		}
	}
}

func expectRegion(t *testing.T, what string, got impl.Region, ok bool, want impl.Region) {
	t.Helper()
	expectList(t, what+": order", got.Order, ok, want.Order)
	expectList(t, what+": far", got.Far, ok, want.Far)
}

func expectNoRegion(t *testing.T, what string, got impl.Region, ok bool) {
	t.Helper()
	expectNoList(t, what+": order", got.Order, ok)
	expectNoList(t, what+": far", got.Far, ok)
}

func TestRegionExamples(t *testing.T) {
	for _, c := range []struct {
		x, order, far, label, point []int
	}{
		{nil, nil, nil, nil, nil},
		{[]int{0}, []int{0}, []int{0}, []int{0}, []int{0}},
		{[]int{-100000}, []int{0}, []int{0}, []int{0}, []int{0}},
		{[]int{0, 30}, []int{1, 0}, []int{0, 0}, []int{1, 0}, []int{-1, 0}},
		{[]int{130, 0}, []int{0, 1}, []int{0, 1}, []int{0, 1}, []int{0, -101}},
		{[]int{50, 0}, []int{0, 1}, []int{0, 0}, []int{0, 0}, []int{0, -1}},
		{[]int{1, 0}, []int{0, 1}, []int{0, 0}, []int{0, 0}, []int{0, -1}},
		{[]int{-1, 0}, []int{1, 0}, []int{0, 0}, []int{1, 0}, []int{-1, 0}},
		{[]int{99, 0}, []int{0, 1}, []int{0, 0}, []int{0, 0}, []int{0, -1}},
		{[]int{101, 0}, []int{0, 1}, []int{0, 1}, []int{0, 1}, []int{0, -101}},
		{[]int{0, 100}, []int{1, 0}, []int{0, 0}, []int{1, 0}, []int{-1, 0}},
		{[]int{0, 101}, []int{1, 0}, []int{0, 0}, []int{1, 0}, []int{-1, 0}},
		{[]int{100000, -100000}, []int{0, 1}, []int{0, 1}, []int{0, 1}, []int{0, -101}},
		{[]int{-100000, 100000}, []int{1, 0}, []int{0, 0}, []int{1, 0}, []int{-1, 0}},
		{[]int{0, -60, -120}, []int{0, 1, 2}, []int{0, 0, 1}, []int{0, 0, 1}, []int{0, -2, -101}},
		{[]int{0, -1, -120}, []int{0, 1, 2}, []int{0, 0, 2}, []int{0, 0, 2}, []int{0, -1, -102}},
		{[]int{0, -101, -102}, []int{0, 1, 2}, []int{0, 1, 1}, []int{0, 1, 1}, []int{0, -101, -102}},
		{[]int{0, -101, -202}, []int{0, 1, 2}, []int{0, 1, 2}, []int{0, 1, 2}, []int{0, -101, -202}},
		{[]int{0, -102, -101}, []int{0, 2, 1}, []int{0, 1, 1}, []int{0, 2, 1}, []int{0, -102, -101}},
		{[]int{-300, -150, 0}, []int{2, 1, 0}, []int{0, 0, 0}, []int{2, 1, 0}, []int{-2, -1, 0}},
		{[]int{0, 130, -120}, []int{1, 0, 2}, []int{0, 0, 2}, []int{1, 0, 2}, []int{-1, 0, -102}},
		{[]int{40, 0, -61}, []int{0, 1, 2}, []int{0, 0, 1}, []int{0, 0, 1}, []int{0, -2, -101}},
		{[]int{0, -1, -2, -3, -4, -5, -6, -7}, []int{0, 1, 2, 3, 4, 5, 6, 7}, make([]int, 8), make([]int, 8), []int{0, -1, -2, -3, -4, -5, -6, -7}},
		{[]int{707, 606, 505, 404, 303, 202, 101, 0}, numbersByHand(8), numbersByHand(8), numbersByHand(8), []int{0, -101, -202, -303, -404, -505, -606, -707}},
		{[]int{0, 1, 2, 3, 4, 5, 6, 7}, []int{7, 6, 5, 4, 3, 2, 1, 0}, make([]int, 8), []int{7, 6, 5, 4, 3, 2, 1, 0}, []int{-7, -6, -5, -4, -3, -2, -1, 0}},
	} {
		what := fmt.Sprint(" of ", c.x)
		r, ok := impl.RegionOfPoint(c.x)
		expectRegion(t, "region"+what, r, ok, regionOf(c.order, c.far))
		label, ok := impl.LabelOfPoint(c.x)
		expectList(t, "label"+what, label, ok, c.label)
		label, ok = impl.LabelOfRegion(r)
		expectList(t, "label of the region"+what, label, ok, c.label)
		r, ok = impl.RegionOfLabel(c.label)
		expectRegion(t, fmt.Sprint("region of the label ", c.label), r, ok, regionOf(c.order, c.far))
		x, ok := impl.PointOfRegion(r)
		expectList(t, "point of the region"+what, x, ok, c.point)
		if !impl.IsRegion(r) {
			t.Errorf("the region%s is none", what)
		}
	}
}

func TestPointsAgreeWithHand(t *testing.T) {
	regions := 0
	seen := map[string]bool{}
	eachPoint(func(x []int) {
		what := fmt.Sprint(" of ", x)
		want := regionByHand(x)
		r, ok := impl.RegionOfPoint(x)
		expectRegion(t, "region"+what, r, ok, want)
		label, ok := impl.LabelOfPoint(x)
		expectList(t, "label"+what, label, ok, labelByHand(x))
		label, ok = impl.LabelOfRegion(want)
		expectList(t, "label of the region"+what, label, ok, labelByHand(x))
		if !isParkingByHand(label) {
			t.Errorf("the label%s is no parking function: %v", what, label)
		}
		if !impl.IsRegion(want) {
			t.Errorf("the region%s is none: %v", what, want)
		}
		if len(x) <= 4 && !seen[fmt.Sprint(want)] {
			seen[fmt.Sprint(want)] = true
			regions++
		}
	})
	if want := 1 + 1 + 3 + 16 + 125; regions != want {
		t.Errorf("the points have %d regions, want %d", regions, want)
	}
}

func TestPointLimits(t *testing.T) {
	for _, x := range [][]int{{100000}, {-100000}, {100000, -100000}, {0, 100}, {0, 1, 101}, {1, 0, -98, -96, 2, 3, 5, -94}, {100000, 99999, 99998, 99997, 99996, 99995, 99994, -100000}} {
		label, ok := impl.LabelOfPoint(x)
		expectList(t, fmt.Sprint("label of ", x), label, ok, labelByHand(x))
		r, ok := impl.RegionOfPoint(x)
		expectRegion(t, fmt.Sprint("region of ", x), r, ok, regionByHand(x))
		planes, ok := impl.PlanesBetween(x, x)
		expectNumber(t, fmt.Sprint("planes between ", x, " and itself"), planes, ok, 0)
	}
	for _, x := range notPoints {
		expectNoPoint(t, x)
	}
	eachList(2, 250, func(x []int) {
		x[0] -= 100
		_, ok := impl.LabelOfPoint(x)
		if ok != (x[0] != x[1] && x[0] != x[1]+100) {
			t.Errorf("label of %v: got %v", x, ok)
		}
	})
	eachList(3, 4, func(x []int) {
		for i := range x {
			x[i] *= 50
		}
		if !isPointByHand(x) {
			expectNoPoint(t, x)
		}
	})
}

func expectNoPoint(t *testing.T, x []int) {
	t.Helper()
	what := fmt.Sprint(" of ", x)
	r, ok := impl.RegionOfPoint(x)
	expectNoRegion(t, "region"+what, r, ok)
	label, ok := impl.LabelOfPoint(x)
	expectNoList(t, "label"+what, label, ok)
	planes, ok := impl.PlanesBetween(x, x)
	expectNoNumber(t, "planes between a list and itself"+what, planes, ok)
	point := numbersByHand(min(len(x), 8))
	slices.Reverse(point)
	planes, ok = impl.PlanesBetween(x, point)
	expectNoNumber(t, "planes between a list and a point"+what, planes, ok)
	planes, ok = impl.PlanesBetween(point, x)
	expectNoNumber(t, "planes between a point and a list"+what, planes, ok)
}

func TestIsRegion(t *testing.T) {
	for n := range 5 {
		regions := map[string]bool{}
		for _, r := range regionsByHand(n) {
			regions[fmt.Sprint(r)] = true
		}
		if len(regions) != len(parkingFunctions(n)) {
			t.Errorf("by hand, there are %d regions of %d numbers", len(regions), n)
		}
		eachList(n, n+1, func(order []int) {
			// Of 4 numbers, lists that are no orders are too many.
			if n == 4 && !slices.Equal(sortedCopy(order), numbersByHand(4)) {
				return
			}
			eachList(n, n+2, func(far []int) {
				for p := range far {
					far[p]--
				}
				r := regionOf(order, far)
				if got := impl.IsRegion(r); got != regions[fmt.Sprint(r)] {
					t.Errorf("%v is a region: got %v", r, got)
				}
			})
		})
	}
	for _, r := range notRegions {
		if impl.IsRegion(r) {
			t.Errorf("%v is a region", r)
		}
		x, ok := impl.PointOfRegion(r)
		expectNoList(t, fmt.Sprint("point of ", r), x, ok)
		label, ok := impl.LabelOfRegion(r)
		expectNoList(t, fmt.Sprint("label of ", r), label, ok)
	}
	if !impl.IsRegion(impl.Region{}) || !impl.IsRegion(regionOf([]int{}, []int{})) {
		t.Error("the region without numbers is none")
	}
}

// expectPointOf checks the point of a region by its bounds.
func expectPointOf(t *testing.T, r impl.Region) {
	t.Helper()
	what := fmt.Sprint("point of ", r)
	x, ok := impl.PointOfRegion(r)
	if !ok || len(x) != len(r.Order) || !areGreatestByHand(numbersOfRegion(x, r), r.Far) {
		t.Errorf("%s: got %v, %v", what, x, ok)
		return
	}
	back, ok := impl.RegionOfPoint(x)
	expectRegion(t, "region of the "+what, back, ok, r)
}

func TestPointsOfRegions(t *testing.T) {
	for n := range 5 {
		for _, r := range regionsByHand(n) {
			expectPointOf(t, r)
			x, ok := impl.PointOfRegion(r)
			expectList(t, fmt.Sprint("point of ", r), x, ok, pointByHand(r))
		}
	}
	for n := range 9 {
		eachFar(n, func(far []int) { expectPointOf(t, regionOf(numbersByHand(n), far)) })
	}
	for _, list := range greatParking() {
		r, ok := impl.RegionOfLabel(list)
		if !ok {
			t.Errorf("no region has the label %v", list)
		}
		expectPointOf(t, r)
	}
}

// No greater numbers of three keep the bounds, whatever they are.
func TestPointsAreGreatest(t *testing.T) {
	eachFar(3, func(far []int) {
		greatest := []int{0, math.MinInt, math.MinInt}
		for second := -250; second < 0; second++ {
			for third := -250; third < second; third++ {
				keeps := true
				for _, b := range boundsByHand(far) {
					numbers := []int{0, second, third}
					keeps = keeps && numbers[b.place] <= numbers[b.other]+b.by
				}
				if keeps {
					greatest[1], greatest[2] = max(greatest[1], second), max(greatest[2], third)
				}
			}
		}
		x, ok := impl.PointOfRegion(regionOf(numbersByHand(3), far))
		expectList(t, fmt.Sprint("point of Far ", far), x, ok, greatest)
	})
}

// Promise 7: regions and parking functions are as many, and label each other.
func TestEachParkingFunctionLabelsOneRegion(t *testing.T) {
	for n := range 6 {
		regionOfLabel := map[string]impl.Region{}
		for _, r := range regionsByHand(n) {
			want := labelByHand(pointByHand(r))
			label, ok := impl.LabelOfRegion(r)
			expectList(t, fmt.Sprint("label of ", r), label, ok, want)
			if other, isThere := regionOfLabel[fmt.Sprint(label)]; isThere {
				t.Errorf("%v labels both %v and %v", label, r, other)
			}
			regionOfLabel[fmt.Sprint(label)] = r
		}
		for _, list := range parkingFunctions(n) {
			want, isThere := regionOfLabel[fmt.Sprint(list)]
			if !isThere {
				t.Errorf("%v labels no region", list)
			}
			r, ok := impl.RegionOfLabel(list)
			expectRegion(t, fmt.Sprint("region of the label ", list), r, ok, want)
		}
		if len(regionOfLabel) != len(parkingFunctions(n)) {
			t.Errorf("%d labels of %d numbers", len(regionOfLabel), n)
		}
	}
}

func TestRegionsOfManyNumbers(t *testing.T) {
	lists := greatParking()
	eachList(6, 6, func(list []int) {
		if isParkingByHand(list) {
			lists = append(lists, list)
		}
	})
	eachKeyOrder(numbersByHand(7), func(order []int) { lists = append(lists, order) })
	for _, list := range lists {
		what := fmt.Sprint("region of the label ", list)
		r, ok := impl.RegionOfLabel(list)
		if !ok || !impl.IsRegion(r) {
			t.Errorf("%s: got %v, %v", what, r, ok)
			continue
		}
		if label := labelByHand(pointByHand(r)); !slices.Equal(label, list) {
			t.Errorf("%s: got %v, which has the label %v", what, r, label)
		}
		label, ok := impl.LabelOfRegion(r)
		expectList(t, "label of the "+what, label, ok, list)
	}
	for _, list := range append(notParking, make([]int, 9), []int{0, 0, 0, 0, 0, 0, 0, 8}, []int{1, 1, 1, 1, 1, 1, 1, 1}) {
		r, ok := impl.RegionOfLabel(list)
		expectNoRegion(t, fmt.Sprint("region of the label ", list), r, ok)
	}
}

func TestAllRegions(t *testing.T) {
	for n := range 5 {
		want := regionsByHand(n)
		slices.SortFunc(want, func(a impl.Region, b impl.Region) int {
			return slices.Compare(labelByHand(pointByHand(a)), labelByHand(pointByHand(b)))
		})
		got, ok := impl.AllRegions(n)
		if !ok || !slices.EqualFunc(got, want, sameRegion) {
			t.Errorf("all regions of %d numbers: got %v, %v", n, got, ok)
		}
	}
	for _, n := range []int{-1, 5, 6, 8, 9, math.MinInt, math.MaxInt} {
		got, ok := impl.AllRegions(n)
		if ok || len(got) != 0 {
			t.Errorf("all regions of %d numbers: got %v, %v", n, got, ok)
		}
	}
}

func TestBaseRegion(t *testing.T) {
	for n := range 9 {
		r, ok := impl.BaseRegion(n)
		expectRegion(t, fmt.Sprint("base region of ", n), r, ok, regionOf(numbersByHand(n), make([]int, n)))
		label, ok := impl.LabelOfRegion(r)
		expectList(t, fmt.Sprint("label of the base region of ", n), label, ok, make([]int, n))
	}
	for _, n := range []int{-1, 9, math.MinInt, math.MaxInt} {
		r, ok := impl.BaseRegion(n)
		expectNoRegion(t, fmt.Sprint("base region of ", n), r, ok)
	}
}

func TestPlanesBetween(t *testing.T) {
	for _, c := range []struct {
		x, y []int
		want int
	}{
		{nil, nil, 0}, {[]int{5}, []int{-5}, 0}, {[]int{0, 30}, []int{130, 0}, 2}, {[]int{0, 30}, []int{50, 0}, 1}, {[]int{130, 0}, []int{50, 0}, 1},
		{[]int{99, 0}, []int{101, 0}, 1}, {[]int{0, 1}, []int{0, 100000}, 0}, {[]int{-300, -150, 0}, []int{300, 150, 0}, 6},
		{[]int{0, 1, 2, 3, 4, 5, 6, 7}, []int{707, 606, 505, 404, 303, 202, 101, 0}, 56},
	} {
		got, ok := impl.PlanesBetween(c.x, c.y)
		expectNumber(t, fmt.Sprint("planes between ", c.x, " and ", c.y), got, ok, c.want)
	}
	before := map[int][]int{}
	eachPoint(func(x []int) {
		base := numbersByHand(len(x))
		slices.Reverse(base)
		planes, ok := impl.PlanesBetween(base, x)
		expectNumber(t, fmt.Sprint("planes between the base region and ", x), planes, ok, sumOf(labelByHand(x)))
		if other, isThere := before[len(x)]; isThere {
			planes, ok = impl.PlanesBetween(x, other)
			expectNumber(t, fmt.Sprint("planes between ", x, " and ", other), planes, ok, planesByHand(x, other))
		}
		before[len(x)] = x
	})
	for _, c := range [][2][]int{{nil, {0}}, {{0}, nil}, {{0, 1}, {0}}, {{0}, {0, 1}}, {numbersByHand(8), numbersByHand(7)}, {numbersByHand(9), numbersByHand(9)}, {{0, 1}, {0, 0}}, {{100, 0}, {0, 1}}} {
		planes, ok := impl.PlanesBetween(c[0], c[1])
		expectNoNumber(t, fmt.Sprint("planes between ", c[0], " and ", c[1]), planes, ok)
	}
}

func toppledByHand(c []int, node int) []int {
	toppled := slices.Clone(c)
	for i := range toppled {
		if i == node {
			toppled[i] -= len(c)
		} else {
			toppled[i]++
		}
	}
	return toppled
}

// settledByHand lets one of the nodes that can topple do so, again and again, and returns the stable sand and the nodes in their order.
func settledByHand(c []int, choose func(nodes []int) int) ([]int, []int) {
	settled := slices.Clone(c)
	var order []int
	for {
		var nodes []int
		for node, grains := range settled {
			if grains >= len(c) {
				nodes = append(nodes, node)
			}
		}
		if len(nodes) == 0 {
			return settled, order
		}
		node := choose(nodes)
		settled = toppledByHand(settled, node)
		order = append(order, node)
	}
}

func leastNode(nodes []int) int    { return nodes[0] }
func greatestNode(nodes []int) int { return nodes[len(nodes)-1] }

func sandSumByHand(c []int, d []int) []int {
	sum := slices.Clone(c)
	for node := range sum {
		sum[node] += d[node]
	}
	settled, _ := settledByHand(sum, greatestNode)
	return settled
}

func isStableByHand(c []int) bool {
	return len(c) == 0 || slices.Max(c) < len(c)
}

func lessByHand(list []int) []int {
	var less []int
	for _, x := range list {
		less = append(less, len(list)-1-x)
	}
	return less
}

// isRecurrentByHand burns: from the sink on, a node burns if it has as many grains as there are other nodes that do not burn yet.
func isRecurrentByHand(c []int) bool {
	burnt := map[int]bool{}
	for range c {
		for node, grains := range c {
			if !burnt[node] && grains >= len(c)-len(burnt)-1 {
				burnt[node] = true
			}
		}
	}
	return isStableByHand(c) && len(burnt) == len(c)
}

func recurrentByHand(n int) [][]int {
	var all [][]int
	eachList(n, n, func(c []int) {
		if isRecurrentByHand(c) {
			all = append(all, c)
		}
	})
	return all
}

// eachSand visits sand on up to 5 nodes, and samples up to the limits.
func eachSand(visit func(c []int)) {
	for n, bound := range []int{1, 61, 61, 9, 7, 6} {
		eachList(n, bound, visit)
	}
	for n := 3; n <= 8; n++ {
		seed := n
		for sample := range 300 {
			c := make([]int, n)
			for node := range c {
				seed = (seed*7141 + 54773) % 259200
				c[node] = seed % min(n+sample/3, 61)
			}
			visit(c)
		}
		visit(slices.Repeat([]int{60}, n))
		visit(slices.Repeat([]int{n}, n))
		visit(slices.Repeat([]int{n - 1}, n))
		visit(make([]int, n))
	}
	for _, list := range greatParking() {
		visit(lessByHand(list))
	}
}

func TestSandExamples(t *testing.T) {
	for _, c := range []struct {
		sand, settled, times []int
	}{
		{nil, nil, nil}, {[]int{0}, []int{0}, []int{0}}, {[]int{1}, []int{0}, []int{1}}, {[]int{60}, []int{0}, []int{60}},
		{[]int{1, 2}, []int{0, 1}, []int{1, 1}}, {[]int{1, 1}, []int{1, 1}, []int{0, 0}}, {[]int{2, 0}, []int{0, 1}, []int{1, 0}}, {[]int{60, 60}, []int{1, 1}, []int{59, 59}},
		{[]int{3, 3, 3}, []int{2, 2, 2}, []int{1, 1, 1}}, {[]int{2, 2, 2}, []int{2, 2, 2}, []int{0, 0, 0}}, {[]int{60, 0, 0}, []int{2, 2, 2}, []int{28, 13, 13}},
		{slices.Repeat([]int{60}, 8), slices.Repeat([]int{7}, 8), slices.Repeat([]int{53}, 8)}, {slices.Repeat([]int{8}, 8), slices.Repeat([]int{7}, 8), slices.Repeat([]int{1}, 8)},
		{[]int{8, 7, 7, 7, 7, 7, 7, 7}, []int{7, 6, 6, 6, 6, 6, 6, 6}, slices.Repeat([]int{1}, 8)}, {[]int{8, 6, 6, 6, 6, 6, 6, 6}, []int{0, 7, 7, 7, 7, 7, 7, 7}, []int{1, 0, 0, 0, 0, 0, 0, 0}},
	} {
		settled, times, ok := impl.StabilizeSand(c.sand)
		expectList(t, fmt.Sprint("stabilized ", c.sand), settled, ok, c.settled)
		expectList(t, fmt.Sprint("times for ", c.sand), times, ok, c.times)
		is, ok := impl.IsStable(c.sand)
		expectAnswer(t, fmt.Sprint("is stable: ", c.sand), is, ok, slices.Equal(c.sand, c.settled))
	}
}

func timesByHand(n int, order []int) []int {
	times := make([]int, n)
	for _, node := range order {
		times[node]++
	}
	return times
}

// Promise 7: sand settles alike in any order.
func TestSandSettlesAlikeInAnyOrder(t *testing.T) {
	eachSand(func(c []int) {
		turns := 0
		ways := []func([]int) int{leastNode, greatestNode, func(nodes []int) int {
			turns++
			return nodes[turns*7%11%len(nodes)]
		}}
		settled, times, ok := impl.StabilizeSand(c)
		for way, choose := range ways {
			want, order := settledByHand(c, choose)
			what := fmt.Sprint(c, " in the way ", way)
			expectList(t, "stabilized "+what, settled, ok, want)
			expectList(t, "times for "+what, times, ok, timesByHand(len(c), order))
		}
		is, ok := impl.IsStable(c)
		expectAnswer(t, fmt.Sprint("is stable: ", c), is, ok, isStableByHand(c))
		is, ok = impl.IsStable(settled)
		expectAnswer(t, fmt.Sprint("is stable in the end: ", c), is, ok, true)
	})
}

// Topplings one by one lead to the same sand, as long as no node has too many grains.
func TestTopplings(t *testing.T) {
	eachSand(func(c []int) {
		want, _ := settledByHand(c, leastNode)
		for _, choose := range []func([]int) int{leastNode, greatestNode} {
			toppled := c
			_, order := settledByHand(c, choose)
			for _, node := range order {
				next, ok := impl.ToppleSand(toppled, node)
				if slices.Max(toppledByHand(toppled, node)) > 60 {
					expectNoList(t, fmt.Sprint("topple ", node, " of ", toppled), next, ok)
					return
				}
				expectList(t, fmt.Sprint("topple ", node, " of ", toppled), next, ok, toppledByHand(toppled, node))
				toppled = next
			}
			expectList(t, fmt.Sprint("toppled ", c), toppled, true, want)
		}
	})
	for _, c := range []struct {
		sand []int
		node int
		want []int
	}{
		{[]int{1}, 0, []int{0}}, {[]int{60}, 0, []int{59}}, {[]int{1, 2}, 1, []int{2, 0}}, {[]int{2, 0}, 0, []int{0, 1}}, {[]int{59, 60}, 1, []int{60, 58}}, {[]int{8, 0, 0, 0, 0, 0, 0, 59}, 0, []int{0, 1, 1, 1, 1, 1, 1, 60}},
	} {
		got, ok := impl.ToppleSand(c.sand, c.node)
		expectList(t, fmt.Sprint("topple ", c.node, " of ", c.sand), got, ok, c.want)
	}
	for _, c := range []struct {
		sand []int
		node int
	}{
		{nil, 0}, {nil, -1}, {[]int{0}, 0}, {[]int{1}, 1}, {[]int{1}, -1}, {[]int{1, 2}, 0}, {[]int{2, 1}, 1}, {[]int{2, 2}, 2}, {[]int{60, 60}, 0}, {[]int{60, 60}, 1}, {[]int{8, 0, 0, 0, 0, 0, 0, 60}, 0},
		{[]int{7, 8, 8, 8, 8, 8, 8, 8}, 0}, {[]int{8, 8, 8, 8, 8, 8, 8, 8}, 8}, {[]int{5}, math.MaxInt}, {[]int{5}, math.MinInt}, {[]int{61}, 0}, {[]int{-1, 5}, 1}, {make([]int, 9), 0}, {slices.Repeat([]int{9}, 9), 0},
	} {
		got, ok := impl.ToppleSand(c.sand, c.node)
		expectNoList(t, fmt.Sprint("topple ", c.node, " of ", c.sand), got, ok)
	}
}

func TestRecurrentSand(t *testing.T) {
	eachSand(func(c []int) {
		want := isRecurrentByHand(c)
		is, ok := impl.IsRecurrent(c)
		expectAnswer(t, fmt.Sprint("is recurrent: ", c), is, ok, want)
		list, ok := impl.ParkingOfSand(c)
		order, isFired := impl.FireOrder(c)
		repeated, isRepeated := impl.RepeatSand(c, 1)
		if !want {
			expectNoList(t, fmt.Sprint("parking function of ", c), list, ok)
			expectNoList(t, fmt.Sprint("fire order of ", c), order, isFired)
			expectNoList(t, fmt.Sprint("once ", c), repeated, isRepeated)
			return
		}
		expectList(t, fmt.Sprint("parking function of ", c), list, ok, lessByHand(c))
		more := sandWithMore(c)
		settled, byHand := settledByHand(more, leastNode)
		expectList(t, fmt.Sprint("what comes back to ", c), settled, true, c)
		expectList(t, fmt.Sprint("fire order of ", c), order, isFired, byHand)
		expectList(t, fmt.Sprint("nodes that topple in ", c), sortedCopy(order), isFired, numbersByHand(len(c)))
		expectList(t, fmt.Sprint("once ", c), repeated, isRepeated, c)
	})
	for _, c := range [][]int{{0, 0}, {0, 0, 2}, {1, 1, 1}, {0, 0, 0, 3}, {0, 0, 0, 0, 0, 0, 0, 0}, {7, 6, 5, 4, 3, 2, 0, 0}} {
		is, ok := impl.IsRecurrent(c)
		expectAnswer(t, fmt.Sprint("is recurrent though it is only stable: ", c), is, ok, false)
	}
}

// sandWithMore has one grain more on each node.
func sandWithMore(c []int) []int {
	more := slices.Clone(c)
	for node := range more {
		more[node]++
	}
	return more
}

func TestFireOrderExamples(t *testing.T) {
	for _, c := range []struct{ sand, order []int }{
		{nil, nil}, {[]int{0}, []int{0}}, {[]int{1, 1}, []int{0, 1}}, {[]int{0, 1}, []int{1, 0}}, {[]int{1, 0}, []int{0, 1}}, {[]int{0, 2, 1}, []int{1, 2, 0}}, {[]int{1, 2, 2}, []int{1, 0, 2}},
		{[]int{0, 1, 2, 3, 4, 5, 6, 7}, []int{7, 6, 5, 4, 3, 2, 1, 0}}, {slices.Repeat([]int{7}, 8), []int{0, 1, 2, 3, 4, 5, 6, 7}},
	} {
		order, ok := impl.FireOrder(c.sand)
		expectList(t, fmt.Sprint("fire order of ", c.sand), order, ok, c.order)
	}
}

func TestSandOfParking(t *testing.T) {
	lists := greatParking()
	for n := range 6 {
		lists = append(lists, parkingFunctions(n)...)
		if len(recurrentByHand(n)) != len(parkingFunctions(n)) {
			t.Errorf("%d recurrent piles of %d nodes", len(recurrentByHand(n)), n)
		}
	}
	for _, list := range lists {
		what := fmt.Sprint("sand of ", list)
		c, ok := impl.SandOfParking(list)
		expectList(t, what, c, ok, lessByHand(list))
		is, ok := impl.IsRecurrent(c)
		expectAnswer(t, what+" is recurrent", is, ok, true)
		back, ok := impl.ParkingOfSand(c)
		expectList(t, "parking function of the "+what, back, ok, list)
	}
	for _, list := range append(notParking, make([]int, 9)) {
		c, ok := impl.SandOfParking(list)
		expectNoList(t, fmt.Sprint("sand of ", list), c, ok)
	}
}

func TestAddSand(t *testing.T) {
	for n, bound := range []int{1, 61, 7, 4, 3} {
		eachList(n, bound, func(c []int) {
			eachList(n, bound, func(d []int) {
				sum, ok := impl.AddSand(c, d)
				expectList(t, fmt.Sprint(c, " and ", d), sum, ok, sandSumByHand(c, d))
			})
		})
	}
	before := map[int][]int{}
	eachSand(func(c []int) {
		if d, isThere := before[len(c)]; isThere {
			sum, ok := impl.AddSand(c, d)
			expectList(t, fmt.Sprint(c, " and ", d), sum, ok, sandSumByHand(c, d))
		}
		before[len(c)] = c
	})
	full := slices.Repeat([]int{60}, 8)
	sum, ok := impl.AddSand(full, full)
	expectList(t, "the greatest sand and itself", sum, ok, slices.Repeat([]int{7}, 8))
	for _, c := range [][2][]int{{nil, {0}}, {{0}, nil}, {{0, 1}, {1}}, {{1}, {0, 1}}, {full, full[1:]}, {full[1:], full}, {make([]int, 9), make([]int, 9)}} {
		sum, ok := impl.AddSand(c[0], c[1])
		expectNoList(t, fmt.Sprint(c[0], " and ", c[1]), sum, ok)
	}
	for _, c := range notSand {
		other := make([]int, len(c))
		for _, two := range [][2][]int{{c, other}, {other, c}, {c, c}} {
			sum, ok := impl.AddSand(two[0], two[1])
			expectNoList(t, fmt.Sprint(two[0], " and ", two[1]), sum, ok)
		}
	}
}

func TestRestSand(t *testing.T) {
	for n := range 6 {
		rest, ok := impl.RestSand(n)
		all := recurrentByHand(n)
		if !ok || len(rest) != n || !isRecurrentByHand(rest) {
			t.Errorf("rest of %d: got %v, %v", n, rest, ok)
			continue
		}
		for _, c := range all {
			expectList(t, fmt.Sprint("rest and ", c), sandSumByHand(rest, c), ok, c)
			sum, ok := impl.AddSand(rest, c)
			expectList(t, fmt.Sprint("sum of rest and ", c), sum, ok, c)
		}
	}
	for n, want := range [][]int{nil, {0}, {1, 1}, {2, 2, 2}, {3, 3, 3, 3}, {4, 4, 4, 4, 4}, {5, 5, 5, 5, 5, 5}, {6, 6, 6, 6, 6, 6, 6}, {7, 7, 7, 7, 7, 7, 7, 7}} {
		rest, ok := impl.RestSand(n)
		expectList(t, fmt.Sprint("rest of ", n), rest, ok, want)
	}
	rest, _ := impl.RestSand(8)
	for _, list := range greatParking() {
		expectList(t, fmt.Sprint("rest and the sand of ", list), sandSumByHand(rest, lessByHand(list)), true, lessByHand(list))
	}
	for _, n := range []int{-1, 9, math.MinInt, math.MaxInt} {
		rest, ok := impl.RestSand(n)
		expectNoList(t, fmt.Sprint("rest of ", n), rest, ok)
	}
}

func TestRepeatSand(t *testing.T) {
	var all [][]int
	for n := range 5 {
		all = append(all, recurrentByHand(n)...)
	}
	for i, list := range greatParking() {
		if i%40 == 0 {
			all = append(all, lessByHand(list))
		}
	}
	for _, c := range all {
		want, ok := impl.RestSand(len(c))
		for k := range 1001 {
			if k > 0 {
				want = sandSumByHand(want, c)
			}
			if k > 20 && k%97 > 0 && k < 999 {
				continue
			}
			got, isRepeated := impl.RepeatSand(c, k)
			expectList(t, fmt.Sprint(k, " times ", c), got, ok && isRepeated, want)
		}
		for _, k := range []int{-1, 1001, 1002, math.MinInt, math.MaxInt} {
			got, ok := impl.RepeatSand(c, k)
			expectNoList(t, fmt.Sprint(k, " times ", c), got, ok)
		}
	}
	for _, c := range [][]int{{0, 0}, {2, 1}, {2, 2}, {0, 0, 2}, {1}, slices.Repeat([]int{60}, 8)} {
		for _, k := range []int{0, 1, 1000} {
			got, ok := impl.RepeatSand(c, k)
			expectNoList(t, fmt.Sprint(k, " times ", c), got, ok)
		}
	}
}

// Repeated once more than there are nodes, each recurrent sand is at rest.
func TestSandReturnsToRest(t *testing.T) {
	for n := 1; n <= 4; n++ {
		rest, _ := impl.RestSand(n)
		for _, c := range recurrentByHand(n) {
			got, ok := impl.RepeatSand(c, n+1)
			expectList(t, fmt.Sprint(n+1, " times ", c), got, ok, rest)
		}
	}
}

func TestNotSand(t *testing.T) {
	for _, c := range notSand {
		what := fmt.Sprint(" of ", c)
		is, ok := impl.IsStable(c)
		expectNoAnswer(t, "is stable"+what, is, ok)
		is, ok = impl.IsRecurrent(c)
		expectNoAnswer(t, "is recurrent"+what, is, ok)
		settled, times, ok := impl.StabilizeSand(c)
		expectNoList(t, "stable sand"+what, settled, ok)
		expectNoList(t, "times"+what, times, ok)
		list, ok := impl.ParkingOfSand(c)
		expectNoList(t, "parking function"+what, list, ok)
		list, ok = impl.RepeatSand(c, 1)
		expectNoList(t, "repeated"+what, list, ok)
		list, ok = impl.FireOrder(c)
		expectNoList(t, "fire order"+what, list, ok)
		for node := range min(len(c), 9) {
			list, ok = impl.ToppleSand(c, node)
			expectNoList(t, fmt.Sprint("topple ", node, what), list, ok)
		}
	}
	none := []int{}
	is, ok := impl.IsStable(none)
	expectAnswer(t, "sand without nodes is stable", is, ok, true)
	is, ok = impl.IsRecurrent(none)
	expectAnswer(t, "sand without nodes is recurrent", is, ok, true)
	repeated, ok := impl.RepeatSand(none, 1000)
	expectList(t, "sand without nodes, repeated", repeated, ok, none)
	sum, ok := impl.AddSand(none, nil)
	expectList(t, "sum of sand without nodes", sum, ok, none)
}
