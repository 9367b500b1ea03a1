package impl

import (
	"iter"
	"slices"
)

const (
	listSeparator = ","
	emptyListText = "-"
)

func listText(list []int) string {
	if len(list) == 0 {
		return emptyListText
	}
	return joinNumbers(list, listSeparator)
}

// parseList returns the list with a listText. It fails if there is none.
func parseList(s string) ([]int, bool) {
	if s == emptyListText {
		return nil, true
	}
	return splitNumbers(s, listSeparator)
}

// above finds, from the parent of a node up to the root, what is above it. It has no end where parents lead round.
func above(parents []int, node int) iter.Seq[int] {
	return func(yield func(int) bool) {
		for low := node; low != 0; low = parents[low-1] {
			if !yield(parents[low-1]) {
				return
			}
		}
	}
}

// nodesWith returns, in increasing order, the nodes for which a list has the number x.
func nodesWith(list []int, x int) []int {
	var nodes []int
	for i, number := range list {
		if number == x {
			nodes = append(nodes, i+1)
		}
	}
	return nodes
}

// degreesOf asks only how often each parent is told, not of which node it is the parent.
func degreesOf(parents []int) []int {
	degrees := make([]int, len(parents)+1)
	for i, parent := range parents {
		degrees[parent]++
		degrees[i+1]++
	}
	return degrees
}

func breadthOrder(parents []int) []int {
	order := []int{0}
	for i := 0; i < len(order); i++ {
		order = append(order, nodesWith(parents, order[i])...)
	}
	return order
}

// cutGreatestLeaf returns the greatest leaf and takes it away, so that its degree is 0; its parent's degree is left to the caller.
func cutGreatestLeaf(degrees []int) int {
	leaf := len(degrees) - 1
	for degrees[leaf] != 1 {
		leaf--
	}
	degrees[leaf] = 0
	return leaf
}

func treeOfWord(word []int) []int {
	// The last node left is below the root, so that the word and a 0 are the parents in another order.
	degrees := degreesOf(append(slices.Clone(word), 0))
	parents := make([]int, len(word)+1)
	for _, parent := range word {
		parents[cutGreatestLeaf(degrees)-1] = parent
		degrees[parent]--
	}
	return parents
}

func treesOf(n int) [][]int {
	if n == 0 {
		return [][]int{nil}
	}
	word, least, greatest := make([]int, n-1), make([]int, n-1), slices.Repeat([]int{n}, n-1)
	var all [][]int
	for range countForStreet(n, n) {
		all = append(all, treeOfWord(word))
		stepBetween(word, least, greatest)
	}
	return all
}

// IsTree reports whether parents is a tree.
func IsTree(parents []int) bool {
	if !areCarsBelow(parents, len(parents)+1) {
		return false
	}
	for i := range parents {
		steps := 0
		for range above(parents, i+1) {
			steps++
			// All other nodes and the root are as many as there are nodes.
			if steps > len(parents) {
				return false
			}
		}
	}
	return true
}

// PruferOf returns, for a tree with at least one node, the neighbours of the nodes that are taken away: as long as more than one node is left, the greatest leaf. So there are n - 1 numbers in 0..n.
func PruferOf(parents []int) ([]int, bool) {
	if !IsTree(parents) || len(parents) == 0 {
		return nil, false
	}
	degrees := degreesOf(parents)
	word := make([]int, len(parents)-1)
	for i := range word {
		word[i] = parents[cutGreatestLeaf(degrees)-1]
		degrees[word[i]]--
	}
	return word, true
}

// TreeOfPrufer returns the tree of n nodes whose PruferOf is a list of n - 1 numbers in 0..n, n in 1..MaxCars. It fails if it is no such list.
func TreeOfPrufer(word []int) ([]int, bool) {
	n := len(word) + 1
	if n > MaxCars || !areCarsBelow(word, n+1) {
		return nil, false
	}
	return treeOfWord(word), true
}

// CountTrees returns how many trees of n nodes there are, n in 0..MaxCars: (n + 1)^(n - 1), and 1 for none.
func CountTrees(n int) (int, bool) {
	// Trees are parking functions in another form.
	return CountParking(n)
}

// AllTrees returns all trees of n nodes, n in 1..MaxListed, in lexicographic order of PruferOf.
func AllTrees(n int) ([][]int, bool) {
	if n < 1 || n > MaxListed {
		return nil, false
	}
	return treesOf(n), true
}

// BreadthOrder returns the breadth order.
func BreadthOrder(parents []int) ([]int, bool) {
	if !IsTree(parents) {
		return nil, false
	}
	return breadthOrder(parents), true
}

// TreeOfParking returns the tree in which the parent of the node i + 1 has, in breadth order, the index that the car i of a parking function has as its favourite.
func TreeOfParking(list []int) ([]int, bool) {
	if !isParkingFunction(list) {
		return nil, false
	}
	// In the breadth order of the tree, the nodes follow each other by the favourites of their cars.
	order := []int{0}
	for favourite := range list {
		order = append(order, nodesWith(list, favourite)...)
	}
	parents := make([]int, len(list))
	for car, favourite := range list {
		parents[car] = order[favourite]
	}
	return parents, true
}

// ParkingOfTree returns the parking function whose TreeOfParking it is.
func ParkingOfTree(parents []int) ([]int, bool) {
	if !IsTree(parents) {
		return nil, false
	}
	order := breadthOrder(parents)
	list := make([]int, len(parents))
	for car, parent := range parents {
		list[car] = slices.Index(order, parent)
	}
	return list, true
}

// DegreesOf returns, for the root and then each node, in order, how many neighbours it has.
func DegreesOf(parents []int) ([]int, bool) {
	if !IsTree(parents) {
		return nil, false
	}
	return degreesOf(parents), true
}

// DepthsOf returns for each node, in order, how many are above it, the root counted.
func DepthsOf(parents []int) ([]int, bool) {
	if !IsTree(parents) {
		return nil, false
	}
	depths := make([]int, len(parents))
	for i := range depths {
		for range above(parents, i+1) {
			depths[i]++
		}
	}
	return depths, true
}

// BelowCounts returns, for the root and then each node, in order, how many nodes are below it.
func BelowCounts(parents []int) ([]int, bool) {
	if !IsTree(parents) {
		return nil, false
	}
	var below [MaxCars + 1]int
	for i := range parents {
		for higher := range above(parents, i+1) {
			below[higher]++
		}
	}
	return slices.Clone(below[:len(parents)+1]), true
}

// InversionsOf returns the number of inversions.
func InversionsOf(parents []int) (int, bool) {
	pairs, ok := InversionPairs(parents)
	return len(pairs), ok
}

// InversionPairs returns all inversions i, j, in lexicographic order.
func InversionPairs(parents []int) ([][]int, bool) {
	if !IsTree(parents) {
		return nil, false
	}
	var pairs [][]int
	for node := 1; node <= len(parents); node++ {
		for higher := range above(parents, node) {
			if higher > node {
				pairs = append(pairs, []int{node, higher})
			}
		}
	}
	slices.SortFunc(pairs, slices.Compare)
	return pairs, true
}

// CountByInversions returns, for n in 0..MaxListed, for each number of inversions from 0 on, up to n (n - 1) / 2, how many trees of n nodes have it.
func CountByInversions(n int) ([]int, bool) {
	if n < 0 || n > MaxListed {
		return nil, false
	}
	counts := make([]int, n*(n-1)/2+1)
	for _, parents := range treesOf(n) {
		inversions, _ := InversionsOf(parents)
		counts[inversions]++
	}
	return counts, true
}

// RelabelTree returns the tree in which the node i + 1 is called names[i]; names has each of 1..n once.
func RelabelTree(parents []int, names []int) ([]int, bool) {
	if !IsTree(parents) || len(names) != len(parents) {
		return nil, false
	}
	for node := 1; node <= len(parents); node++ {
		if !slices.Contains(names, node) {
			return nil, false
		}
	}
	called := append([]int{0}, names...)
	relabelled := make([]int, len(parents))
	for i, parent := range parents {
		relabelled[names[i]-1] = called[parent]
	}
	return relabelled, true
}

// LeavesOf returns all leaves, strictly increasing.
func LeavesOf(parents []int) ([]int, bool) {
	if !IsTree(parents) {
		return nil, false
	}
	return nodesWith(degreesOf(parents)[1:], 1), true
}

// RerootTree returns the tree in which the root and a node child whose parent is the root have exchanged their places: what had the root as its parent has the node child now, and the other way round; child has the root as its parent.
func RerootTree(parents []int, child int) ([]int, bool) {
	if !IsTree(parents) || !slices.Contains(nodesWith(parents, 0), child) {
		return nil, false
	}
	rerooted := slices.Clone(parents)
	for i, parent := range parents {
		switch parent {
		case 0:
			rerooted[i] = child
		case child:
			rerooted[i] = 0
		}
	}
	rerooted[child-1] = 0
	return rerooted, true
}

// TreeText returns the parents in decimal with , between them, or - without nodes.
func TreeText(parents []int) (string, bool) {
	if !IsTree(parents) {
		return "", false
	}
	return listText(parents), true
}

// ParseTree returns the tree with a TreeText. It fails if there is none.
func ParseTree(s string) ([]int, bool) {
	parents, ok := parseList(s)
	if !ok || !IsTree(parents) {
		return nil, false
	}
	return parents, true
}
