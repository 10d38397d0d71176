package tests

import (
	"fmt"
	"math"
	"math/rand"
	"slices"
	"testing"

	"loop.example/g01005/impl"
)

// wrongBudgets are numbers that are no budgets.
func wrongBudgets() []int64 {
	return []int64{0, -1, impl.MaxBudget + 1, -2, -impl.MaxBudget, impl.MaxBudget + 2, 1 << 16, 1 << 32, 1<<32 + 1, -1 << 32, 1 << 62, math.MinInt64, math.MinInt64 + 1, math.MaxInt64 - 1, math.MaxInt64}
}

// budgetsAround returns budgets of which some suffice for so many nodes and some do not, with the code of each one.
func budgetsAround(nodes int64) map[int64]int64 {
	codes := map[int64]int64{}
	for _, budget := range []int64{1, 2, nodes / 2, nodes - 1, nodes, nodes + 1, 2 * nodes, impl.MaxBudget - 1, impl.MaxBudget} {
		if budget < 1 || budget > impl.MaxBudget {
			continue
		}
		codes[budget] = impl.OK
		if budget < nodes {
			codes[budget] = impl.ErrFull
		}
	}
	return codes
}

// vertexSet tells of each vertex whether it is in a set.
type vertexSet [impl.MaxVertices]bool

// mapsBetween counts maps and nodes: each node is a list of vertices told for the first ones of a, and a map from what these span.
// It gives up if there are more nodes than a budget can be.
func mapsBetween(a, b impl.Complex) (count, nodes int64) {
	isImage := map[vertexSet]bool{}
	for _, s := range b.Simplices {
		var set vertexSet
		for _, vertex := range s {
			set[vertex] = true
		}
		isImage[set] = true
	}
	vertices, told := verticesOf(a), [][]int64{nil}
	for _, vertex := range vertices {
		// Only the simplices with this vertex as their last one are new in what is spanned.
		spanned := partOf(a, func(s []int64) bool { return s[len(s)-1] == vertex })
		var next [][]int64
		for _, images := range told {
			for _, target := range verticesOf(b) {
				longer := append(slices.Clone(images), target)
				lacks := func(s []int64) bool {
					var set vertexSet
					for _, vertex := range s {
						set[longer[slices.Index(vertices, vertex)]] = true
					}
					return !isImage[set]
				}
				if !slices.ContainsFunc(spanned.Simplices, lacks) {
					next = append(next, longer)
				}
			}
		}
		told = next
		nodes += int64(len(told))
		if nodes > impl.MaxBudget {
			return 0, nodes
		}
	}
	return int64(len(told)), nodes
}

// checkCount checks CountMaps with budgets that suffice and some that do not.
func checkCount(t *testing.T, a, b impl.Complex, want, nodes int64) {
	t.Helper()
	for budget, wantCode := range budgetsAround(nodes) {
		count, code := impl.CountMaps(a, b, budget)
		if wantCode != impl.OK {
			checkNumber(t, fmt.Sprint("CountMaps from ", a, " to ", b, " with the budget ", budget), count, code, 0, wantCode)
		} else {
			checkNumber(t, fmt.Sprint("CountMaps from ", a, " to ", b, " with the budget ", budget), count, code, want, wantCode)
		}
	}
}

func TestCountMaps(t *testing.T) {
	t.Parallel()
	small := smallComplexes(3)
	for _, a := range small {
		for _, b := range small {
			count, nodes := mapsBetween(a, b)
			checkCount(t, a, b, count, nodes)
			brute := int64(0)
			for _, images := range listsOf([]int64{0, 1, 2}, 3) {
				if isMapOf(a, b, images) {
					brute++
				}
			}
			checkEqual(t, fmt.Sprint("the number of maps from ", a, " to ", b), count, brute)
		}
	}
	r := rand.New(rand.NewSource(85))
	all := smallComplexes(4)
	for range 300 {
		a, b := all[r.Intn(len(all))], all[r.Intn(len(all))]
		count, nodes := mapsBetween(a, b)
		checkCount(t, a, b, count, nodes)
	}
	for range 60 {
		a, b := randomComplex(r), randomComplex(r)
		count, nodes := mapsBetween(a, b)
		checkCount(t, a, b, count, nodes)
	}
}

// TestCountMapsOfNamedComplexes takes each complex with a vertex, an edge, a ring and itself.
func TestCountMapsOfNamedComplexes(t *testing.T) {
	t.Parallel()
	for _, a := range chainComplexes() {
		for _, b := range []impl.Complex{{}, complexOf([]int64{3}), complexOf(closureOf([][]int64{{2, 6}})...), ringOf(4), a} {
			count, nodes := mapsBetween(a, b)
			checkCount(t, a, b, count, nodes)
		}
	}
}

// powersUpTo returns the sum of the powers of n with the exponents 1 to last.
func powersUpTo(n, last int64) int64 {
	sum, power := int64(0), int64(1)
	for range last {
		power *= n
		sum += power
	}
	return sum
}

// TestKnownNumbersOfMaps: a simplex or single points have all lists as maps to a simplex, and points also to points.
func TestKnownNumbersOfMaps(t *testing.T) {
	point := func(count int64) impl.Complex { return complexOf(allSimplices(impl.MaxVertices)[:count]...) }
	for n := int64(1); n <= 4; n++ {
		simplex := complexOf(allSimplices(n)...)
		for m := int64(1); m <= 4; m++ {
			count := powersUpTo(m, n) - powersUpTo(m, n-1)
			checkCount(t, simplex, complexOf(allSimplices(m)...), count, powersUpTo(m, n))
			checkCount(t, point(n), point(m), count, powersUpTo(m, n))
			checkCount(t, point(n), complexOf(allSimplices(m)...), count, powersUpTo(m, n))
			// A simplex only has maps to points that tell all its vertices the same one.
			checkCount(t, simplex, point(m), m, m*n)
		}
	}
	// Without vertices, there is one map and no node; to none, there is no node either, and no map.
	checkCount(t, impl.Complex{}, impl.Complex{}, 1, 0)
	checkCount(t, impl.Complex{}, torus(), 1, 0)
	checkCount(t, torus(), impl.Complex{}, 0, 0)
	// Each walk along a ring may stay or go on to either side.
	path := complexOf(closureOf([][]int64{{0, 1}, {1, 2}, {2, 3}, {3, 4}})...)
	checkCount(t, path, ringOf(5), 5*81, 5*(1+3+9+27+81))
	// A triangle cannot be told all three vertices of a ring, in any order.
	checkCount(t, complexOf(allSimplices(3)...), complexOf(allSimplices(3)[:6]...), 27-6, 3+9+21)
	// The last budget: 4 points have 11110 nodes among 10, and 5 points too many.
	checkCount(t, point(4), point(10), 10000, 11110)
	count, code := impl.CountMaps(point(5), point(10), impl.MaxBudget)
	checkNumber(t, "CountMaps with too many nodes", count, code, 0, impl.ErrFull)
	count, code = impl.CountMaps(point(10), point(10), impl.MaxBudget)
	checkNumber(t, "CountMaps with a great many nodes", count, code, 0, impl.ErrFull)
}

// graphOf returns a complex of dimension 1.
func graphOf(vertices int64, edges ...[]int64) impl.Complex {
	return complexOf(closureOf(append(edges, allSimplices(vertices)[:vertices]...))...)
}

// TestAsManyNodesAsABudgetCanHave has just MaxBudget nodes, and one more.
func TestAsManyNodesAsABudgetCanHave(t *testing.T) {
	t.Parallel()
	a := graphOf(8, [][]int64{{0, 1}, {0, 2}, {0, 3}, {0, 4}, {0, 5}, {0, 6}, {0, 7}, {1, 2}, {1, 3}, {1, 4}, {1, 6}, {2, 4}, {2, 5}, {2, 6}, {2, 7}, {3, 4}, {3, 6}, {4, 5}, {4, 6}, {4, 7}, {5, 6}, {5, 7}, {6, 7}}...)
	b := graphOf(5, [][]int64{{0, 2}, {0, 4}, {1, 3}, {1, 4}, {2, 4}, {3, 4}}...)
	want, nodes := mapsBetween(a, b)
	checkEqual(t, "the number of nodes", nodes, impl.MaxBudget)
	checkCount(t, a, b, want, nodes)
	a = graphOf(8, [][]int64{{0, 3}, {0, 5}, {0, 6}, {1, 2}, {1, 6}, {2, 3}, {2, 4}, {3, 4}, {3, 6}, {3, 7}, {4, 6}, {4, 7}}...)
	b = graphOf(7, [][]int64{{0, 2}, {0, 3}, {0, 4}, {1, 6}, {2, 3}, {2, 5}, {5, 6}}...)
	_, nodes = mapsBetween(a, b)
	checkEqual(t, "the number of nodes", nodes, impl.MaxBudget+1)
	checkCount(t, a, b, 0, nodes)
}
