package impl

// IsTree reports whether parents is a tree.
func IsTree(parents []int) bool { return false }

// PruferOf returns, for a tree with at least one node, the neighbours of the nodes that are taken away: as long as more than one node is left, the greatest leaf. So there are n - 1 numbers in 0..n.
func PruferOf(parents []int) ([]int, bool) { return nil, false }

// TreeOfPrufer returns the tree of n nodes whose PruferOf is a list of n - 1 numbers in 0..n, n in 1..MaxCars. It fails if it is no such list.
func TreeOfPrufer(word []int) ([]int, bool) { return nil, false }

// CountTrees returns how many trees of n nodes there are: (n + 1)^(n - 1), and 1 for none.
func CountTrees(n int) (int, bool) { return 0, false }

// AllTrees returns all trees of n nodes, n in 1..MaxListed (chapter 2), in lexicographic order of PruferOf.
func AllTrees(n int) ([][]int, bool) { return nil, false }

// BreadthOrder returns the breadth order.
func BreadthOrder(parents []int) ([]int, bool) { return nil, false }

// TreeOfParking returns the tree in which the parent of the node i + 1 has, in breadth order, the index that the car i of a parking function has as its favourite.
func TreeOfParking(list []int) ([]int, bool) { return nil, false }

// ParkingOfTree returns the parking function whose TreeOfParking it is.
func ParkingOfTree(parents []int) ([]int, bool) { return nil, false }

// DegreesOf returns, for the root and then each node, in order, how many neighbours it has.
func DegreesOf(parents []int) ([]int, bool) { return nil, false }

// DepthsOf returns for each node, in order, how many are above it, the root counted.
func DepthsOf(parents []int) ([]int, bool) { return nil, false }

// BelowCounts returns, for the root and then each node, in order, how many nodes are below it.
func BelowCounts(parents []int) ([]int, bool) { return nil, false }

// InversionsOf returns the number of inversions.
func InversionsOf(parents []int) (int, bool) { return 0, false }

// InversionPairs returns all inversions i, j, in lexicographic order.
func InversionPairs(parents []int) ([][]int, bool) { return nil, false }

// CountByInversions returns, for n in 0..MaxListed (chapter 2), for each number of inversions from 0 on, up to n (n - 1) / 2, how many trees of n nodes have it.
func CountByInversions(n int) ([]int, bool) { return nil, false }

// RelabelTree returns the tree in which the node i + 1 is called names[i]; names has each of 1..n once.
func RelabelTree(parents []int, names []int) ([]int, bool) { return nil, false }

// LeavesOf returns all leaves, strictly increasing.
func LeavesOf(parents []int) ([]int, bool) { return nil, false }

// RerootTree returns the tree in which the root and a node child whose parent is the root have exchanged their places: what had the root as its parent has the node child now, and the other way round; child has the root as its parent.
func RerootTree(parents []int, child int) ([]int, bool) { return nil, false }

// TreeText returns the parents in decimal with , between them, or - without nodes.
func TreeText(parents []int) (string, bool) { return "", false }

// ParseTree returns the tree with a TreeText. It fails if there is none.
func ParseTree(s string) ([]int, bool) { return nil, false }
