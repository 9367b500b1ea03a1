package impl

import (
	"slices"
	"strconv"
	"strings"
)

const MaxCars = 8
const MaxPlaces = 12

// Lists that are no favourites may be judged, too, if their numbers are less than this.
const judgedBelow = 100

const maxOutcomes = 500

const parkSeparator = " "

// A street shows only what its functions tell: a place once taken cannot become free again.
type street struct {
	take func(place int) bool        // takes a place, and is false if it was taken already
	next func(place int) (int, bool) // the place behind, if there is one
}

func newStreet(places int) street {
	taken := make([]bool, places)
	return street{
		take: func(place int) bool {
			wasFree := !taken[place]
			taken[place] = true
			return wasFree
		},
		next: func(place int) (int, bool) {
			return place + 1, place+1 < places
		},
	}
}

// park leaves both loops at the first car that fails, as no later one can make up for it.
func park(list []int, s street) ([]int, bool) {
	stands := make([]int, 0, len(list))
cars:
	for _, favourite := range list {
		place := favourite
		for !s.take(place) {
			behind, isThere := s.next(place)
			if !isThere {
				break cars
			}
			place = behind
		}
		stands = append(stands, place)
	}
	if len(stands) < len(list) {
		return nil, false
	}
	return stands, true
}

func areCarsBelow(list []int, bound int) bool {
	if len(list) > MaxCars {
		return false
	}
	for _, x := range list {
		if x < 0 || x >= bound {
			return false
		}
	}
	return true
}

func isParkingFunction(list []int) bool {
	if !areCarsBelow(list, len(list)) {
		return false
	}
	_, ok := park(list, newStreet(len(list)))
	return ok
}

func indicesOf(n int) []int {
	indices := make([]int, n)
	for i := range indices {
		indices[i] = i
	}
	return indices
}

// isUnder reports whether, in increasing order, each number of a list is at least 0 and at most the bound with the same index.
func isUnder(list []int, bounds ...int) bool {
	sorted := slices.Clone(list)
	slices.Sort(sorted)
	for i, x := range sorted {
		if x < 0 || x > bounds[i] {
			return false
		}
	}
	return true
}

func countBelow(list []int, bound int) int {
	count := 0
	for _, x := range list {
		if x < bound {
			count++
		}
	}
	return count
}

// surplusFrom returns how many more cars have a favourite of at least a place than there are places from it on; it is negative if there are fewer.
func surplusFrom(list []int, places int, place int) int {
	return len(list) - countBelow(list, place) - (places - place)
}

func joinNumbers(list []int, separator string) string {
	words := make([]string, len(list))
	for i, number := range list {
		words[i] = strconv.Itoa(number)
	}
	return strings.Join(words, separator)
}

// splitNumbers returns the list, of at least one number, that joinNumbers makes the text. It fails if there is none.
func splitNumbers(s string, separator string) ([]int, bool) {
	var list []int
	for _, word := range strings.Split(s, separator) {
		number, err := strconv.Atoi(word)
		// A number can be read in more ways than it is written, such as with a sign.
		if err != nil || strconv.Itoa(number) != word {
			return nil, false
		}
		list = append(list, number)
	}
	return list, true
}

// AreFavourites reports whether list are favourites for a street with so many places, a number in 1..MaxPlaces.
func AreFavourites(list []int, places int) bool {
	return places >= 1 && places <= MaxPlaces && areCarsBelow(list, places)
}

// DriveCars returns the place of each car, in order. It fails if a car fails.
func DriveCars(list []int, places int) ([]int, bool) {
	if !AreFavourites(list, places) {
		return nil, false
	}
	return park(list, newStreet(places))
}

// IsParking reports whether a list of at most MaxCars numbers of at least 0, each less than 100, is a parking function.
func IsParking(list []int) (bool, bool) {
	if !areCarsBelow(list, judgedBelow) {
		return false, false
	}
	return isParkingFunction(list), true
}

// DoAllPark reports whether no car fails.
func DoAllPark(list []int, places int) (bool, bool) {
	if !AreFavourites(list, places) {
		return false, false
	}
	_, ok := park(list, newStreet(places))
	return ok, true
}

// RefusingPlace returns the greatest place that refuses a list. It fails if there is none.
func RefusingPlace(list []int, places int) (int, bool) {
	if !AreFavourites(list, places) {
		return 0, false
	}
	for place := places - 1; place >= 0; place-- {
		if surplusFrom(list, places, place) > 0 {
			return place, true
		}
	}
	return 0, false
}

// TakenPlaces returns the places that are taken in the end, strictly increasing. It fails if a car fails.
func TakenPlaces(list []int, places int) ([]int, bool) {
	stands, ok := DriveCars(list, places)
	if !ok {
		return nil, false
	}
	slices.Sort(stands)
	return stands, true
}

// DistancesOf returns the distances of all cars. It fails if a car fails.
func DistancesOf(list []int, places int) ([]int, bool) {
	distances, ok := DriveCars(list, places)
	if !ok {
		return nil, false
	}
	for car, favourite := range list {
		distances[car] -= favourite
	}
	return distances, true
}

// TotalDistance returns the sum of the distances. It fails if a car fails.
func TotalDistance(list []int, places int) (int, bool) {
	distances, ok := DistancesOf(list, places)
	if !ok {
		return 0, false
	}
	total := 0
	for _, distance := range distances {
		total += distance
	}
	return total, true
}

// LuckyCars returns the indices of the cars with the distance 0, strictly increasing. It fails if a car fails.
func LuckyCars(list []int, places int) ([]int, bool) {
	distances, ok := DistancesOf(list, places)
	if !ok {
		return nil, false
	}
	var lucky []int
	for car, distance := range distances {
		if distance == 0 {
			lucky = append(lucky, car)
		}
	}
	return lucky, true
}

// SortedFits reports whether, with the numbers of a list, as for IsParking, in increasing order, each one is at most its index; this is so exactly for parking functions.
func SortedFits(list []int) (bool, bool) {
	if !areCarsBelow(list, judgedBelow) {
		return false, false
	}
	return isUnder(list, indicesOf(len(list))...), true
}

// IsBelow reports whether each number of a is at most that of b with the same index, for parking functions with as many cars; it is false for parking functions with other numbers of cars.
func IsBelow(a []int, b []int) (bool, bool) {
	if !isParkingFunction(a) || !isParkingFunction(b) {
		return false, false
	}
	if len(a) != len(b) {
		return false, true
	}
	for i := range a {
		if a[i] > b[i] {
			return false, true
		}
	}
	return true, true
}

// MixOf returns, for two parking functions with as many cars, the list of the lesser, if low is true, or of the greater number of each index. It fails for others, and if the result is no parking function.
func MixOf(a []int, b []int, low bool) ([]int, bool) {
	if !isParkingFunction(a) || !isParkingFunction(b) || len(a) != len(b) {
		return nil, false
	}
	mix := make([]int, len(a))
	for i := range a {
		if low {
			mix[i] = min(a[i], b[i])
		} else {
			mix[i] = max(a[i], b[i])
		}
	}
	if !isParkingFunction(mix) {
		return nil, false
	}
	return mix, true
}

// isOrder reports whether a list of at most MaxCars numbers has each of 0..n - 1 once.
func isOrder(order []int) bool {
	if !areCarsBelow(order, len(order)) {
		return false
	}
	var seen [MaxCars]bool
	for _, place := range order {
		if seen[place] {
			return false
		}
		seen[place] = true
	}
	return true
}

// leastFavourites returns for each car the least favourite that takes it to its place: from there on, all places are taken by earlier cars.
func leastFavourites(order []int) []int {
	var carAt [MaxCars]int
	for car, place := range order {
		carAt[place] = car
	}
	least := make([]int, len(order))
	for car, place := range order {
		for place > 0 && carAt[place-1] < car {
			place--
		}
		least[car] = place
	}
	return least
}

// CountWithOutcome returns how many parking functions have the given DriveCars, a list that has each of 0..n - 1 once, n in 0..MaxCars.
func CountWithOutcome(order []int) (int, bool) {
	if !isOrder(order) {
		return 0, false
	}
	count := 1
	for car, least := range leastFavourites(order) {
		count *= order[car] - least + 1
	}
	return count, true
}

// AllWithOutcome returns all parking functions that CountWithOutcome counts, in lexicographic order. It fails if there are more than 500.
func AllWithOutcome(order []int) ([][]int, bool) {
	count, ok := CountWithOutcome(order)
	if !ok || count > maxOutcomes {
		return nil, false
	}
	least := leastFavourites(order)
	list := slices.Clone(least)
	all := make([][]int, 0, count)
	for range count {
		all = append(all, slices.Clone(list))
		stepBetween(list, least, order)
	}
	return all, true
}

// stepBetween makes list the next one, lexicographically, of those between two lists; behind the last one comes the first.
func stepBetween(list []int, least []int, greatest []int) {
	for i := len(list) - 1; i >= 0; i-- {
		if list[i] < greatest[i] {
			list[i]++
			return
		}
		list[i] = least[i]
	}
}

// CutsOf returns the cuts of a parking function, strictly increasing.
func CutsOf(list []int) ([]int, bool) {
	if !isParkingFunction(list) {
		return nil, false
	}
	var cuts []int
	for j := 1; j < len(list); j++ {
		if countBelow(list, j) == j {
			cuts = append(cuts, j)
		}
	}
	return cuts, true
}

// JoinParking returns the list of a and then b with the number of cars of a added to each number: a parking function with all cuts of both, and one where they meet. It fails if there are too many cars.
func JoinParking(a []int, b []int) ([]int, bool) {
	if !isParkingFunction(a) || !isParkingFunction(b) || len(a)+len(b) > MaxCars {
		return nil, false
	}
	joined := make([]int, 0, len(a)+len(b))
	joined = append(joined, a...)
	for _, favourite := range b {
		joined = append(joined, favourite+len(a))
	}
	return joined, true
}

// ParkText returns the favourites of a parking function in decimal, with blanks between them; it is empty for no cars.
func ParkText(list []int) (string, bool) {
	if !isParkingFunction(list) {
		return "", false
	}
	return joinNumbers(list, parkSeparator), true
}

// ParsePark returns the parking function with a ParkText. It fails if there is none.
func ParsePark(s string) ([]int, bool) {
	if s == "" {
		return nil, true
	}
	list, ok := splitNumbers(s, parkSeparator)
	if !ok || !isParkingFunction(list) {
		return nil, false
	}
	return list, true
}
