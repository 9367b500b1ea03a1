package tests

import (
	"fmt"
	"testing"

	"loop.example/g01115/impl"
)

func regionResult(r impl.Region, ok bool) result {
	return result{lists: [][]int{r.Order, r.Far}, ok: ok}
}

func callsOfPoints() []call {
	return []call{
		{"RegionOfPoint", func(l ...[]int) result { return regionResult(impl.RegionOfPoint(l[0])) }},
		listCall("LabelOfPoint", impl.LabelOfPoint),
		{"RegionOfLabel", func(l ...[]int) result { return regionResult(impl.RegionOfLabel(l[0])) }},
	}
}

// callsOfRegions take the order and Far.
func callsOfRegions() []call {
	lists := func(name string, f func(impl.Region) ([]int, bool)) call {
		return call{name, func(l ...[]int) result {
			list, ok := f(regionOf(l[0], l[1]))
			return result{lists: [][]int{list}, ok: ok}
		}}
	}
	return []call{
		{"IsRegion", func(l ...[]int) result { return result{ok: impl.IsRegion(regionOf(l[0], l[1]))} }},
		lists("PointOfRegion", impl.PointOfRegion),
		lists("LabelOfRegion", impl.LabelOfRegion),
	}
}

func callsOfTwoPoints() []call {
	return []call{
		{"PlanesBetween", func(l ...[]int) result {
			planes, ok := impl.PlanesBetween(l[0], l[1])
			return result{number: planes, ok: ok}
		}},
		{"AddSand", func(l ...[]int) result {
			sum, ok := impl.AddSand(l[0], l[1])
			return result{lists: [][]int{sum}, ok: ok}
		}},
	}
}

func callsOfSand() []call {
	return []call{
		answerCall("IsStable", impl.IsStable),
		{"StabilizeSand", func(l ...[]int) result {
			settled, times, ok := impl.StabilizeSand(l[0])
			return result{lists: [][]int{settled, times}, ok: ok}
		}},
		answerCall("IsRecurrent", impl.IsRecurrent),
		listCall("SandOfParking", impl.SandOfParking),
		listCall("ParkingOfSand", impl.ParkingOfSand),
		listCall("FireOrder", impl.FireOrder),
	}
}

func callsOfSandAnd(x int) []call {
	return []call{
		listCall(fmt.Sprint("ToppleSand of ", x), func(c []int) ([]int, bool) { return impl.ToppleSand(c, x) }),
		listCall(fmt.Sprint("RepeatSand of ", x), func(c []int) ([]int, bool) { return impl.RepeatSand(c, x) }),
	}
}

func callsOfRegionNumber(n int) []call {
	of := fmt.Sprint(" of ", n)
	return []call{
		{"AllRegions" + of, func(...[]int) result {
			regions, ok := impl.AllRegions(n)
			var lists [][]int
			for _, r := range regions {
				lists = append(lists, r.Order, r.Far)
			}
			return result{lists: lists, ok: ok}
		}},
		{"BaseRegion" + of, func(...[]int) result { return regionResult(impl.BaseRegion(n)) }},
		listResult("RestSand"+of, func() ([]int, bool) { return impl.RestSand(n) }),
	}
}

func pointsAndSand() [][]int {
	lists := append(strangeLists(), notPoints...)
	lists = append(lists, notSand...)
	lists = append(lists, notParking...)
	lists = append(lists, greatParking()[:30]...)
	for n := range 5 {
		lists = append(lists, parkingFunctions(n)...)
		lists = append(lists, recurrentByHand(n)...)
	}
	seen := 0
	visit := func(list []int) {
		seen++
		if seen%53 == 0 {
			lists = append(lists, list)
		}
	}
	eachPoint(visit)
	eachSand(visit)
	return lists
}

func TestAnyPointsAndSand(t *testing.T) {
	calls := append(callsOfPoints(), callsOfSand()...)
	for _, x := range append(strangeNumbers(), 4, 5, 6, 7, 1000, 1001) {
		calls = append(calls, callsOfSandAnd(x)...)
	}
	for _, list := range pointsAndSand() {
		for _, c := range calls {
			expectDecent(t, c, list)
		}
	}
}

func TestAnyTwoPoints(t *testing.T) {
	lists := append(strangeLists(), notPoints...)
	lists = append(lists, notSand...)
	lists = append(lists, []int{60}, []int{0, 30}, []int{130, 0}, []int{60, 60}, []int{-100000, 100000}, []int{0, 1, 2, 3, 4, 5, 6, 7}, []int{60, 60, 60, 60, 60, 60, 60, 60})
	for _, c := range callsOfTwoPoints() {
		for _, a := range lists {
			for _, b := range lists {
				expectDecent(t, c, a, b)
			}
		}
	}
}

func TestAnyRegions(t *testing.T) {
	var regions []impl.Region
	for _, order := range strangeLists() {
		for _, far := range strangeLists() {
			regions = append(regions, regionOf(order, far))
		}
	}
	regions = append(regions, notRegions...)
	for n := range 5 {
		regions = append(regions, regionsByHand(n)...)
	}
	for _, list := range greatParking()[:30] {
		regions = append(regions, regionByHand(pointOfLabel(list)))
	}
	for _, c := range callsOfRegions() {
		for _, r := range regions {
			expectDecent(t, c, r.Order, r.Far)
		}
	}
}

func pointOfLabel(label []int) []int {
	r, _ := impl.RegionOfLabel(label)
	x, _ := impl.PointOfRegion(r)
	return x
}

func TestAnyRegionNumbers(t *testing.T) {
	for _, n := range append(strangeNumbers(), 4, 5, 6, 7) {
		for _, c := range callsOfRegionNumber(n) {
			expectDecent(t, c)
		}
	}
}

// A region whose order and Far are one list is a region, too, and so is sand that is added to itself.
func TestOneListForTwo(t *testing.T) {
	numbers := guarded(numbersByHand(8))
	r := regionOf(numbers, numbers)
	if !impl.IsRegion(r) {
		t.Error("one list for both is no region")
	}
	x, ok := impl.PointOfRegion(r)
	expectList(t, "point of one list for both", x, ok, []int{0, -101, -202, -303, -404, -505, -606, -707})
	label, ok := impl.LabelOfRegion(r)
	expectList(t, "label of one list for both", label, ok, numbersByHand(8))
	sum, ok := impl.AddSand(numbers, numbers)
	expectList(t, "sum of one list for both", sum, ok, sandSumByHand(numbersByHand(8), numbersByHand(8)))
	planes, ok := impl.PlanesBetween(numbers, numbers)
	expectNumber(t, "planes of one list for both", planes, ok, 0)
	for _, list := range [][]int{x, label, sum} {
		scribble(list)
	}
	if !isIntact(numbers, numbersByHand(8)) {
		t.Error("the list for both was changed, or given out")
	}
}
