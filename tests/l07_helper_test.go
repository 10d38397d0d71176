package tests

import (
	"fmt"
	"math"
	"math/rand"
	"slices"
	"testing"

	"loop.example/g01005/impl"
)

// simplicesOf returns the simplices of a dimension, and none for a number that is no dimension.
func simplicesOf(c impl.Complex, dimension int64) [][]int64 {
	return partOf(c, func(s []int64) bool { return int64(len(s)) == dimension+1 }).Simplices
}

// incidenceOf is the number of a face in the boundary of a simplex.
func incidenceOf(face, s []int64, p int64) int64 {
	for i, vertex := range s {
		if slices.Equal(without(s, vertex), face) {
			return []int64{1, p - 1}[i%2]
		}
	}
	return 0
}

func boundaryMatrixOf(c impl.Complex, k, p int64) impl.Matrix {
	rows, columns := simplicesOf(c, k-1), simplicesOf(c, k)
	return builtMatrix(p, int64(len(rows)), int64(len(columns)), func(i, j int64) int64 { return incidenceOf(rows[i], columns[j], p) })
}

func isZero(v []int64) bool { return firstPlace(v) < 0 }

// sumWith returns v with multiples of vectors added.
func sumWith(v []int64, vectors [][]int64, factors []int64, p int64) []int64 {
	sum := slices.Clone(v)
	for i, vector := range vectors {
		for k, n := range vector {
			sum[k] = (sum[k] + factors[i]*n) % p
		}
	}
	return sum
}

func difference(a, b []int64, p int64) []int64 { return sumWith(a, [][]int64{b}, []int64{p - 1}, p) }

// span holds vectors of which none is a sum of multiples of the others, by their first places other than 0, where they have 1.
type span struct {
	p       int64
	vectors map[int][]int64
}

// spanOf returns what spans all sums of multiples of vectors, and the places of those that are no such sums of the ones before them.
func spanOf(p int64, vectors [][]int64) (span, []int64) {
	s := span{p, map[int][]int64{}}
	var taken []int64
	for i, v := range vectors {
		if s.add(v) {
			taken = append(taken, int64(i))
		}
	}
	return s, taken
}

// rest takes multiples of the vectors away from v; what is left is 0 if v is a sum of multiples of them.
func (s span) rest(v []int64) []int64 {
	rest := slices.Clone(v)
	for place := range rest {
		if known, found := s.vectors[place]; found {
			rest = sumWith(rest, [][]int64{known}, []int64{s.p - rest[place]}, s.p)
		}
	}
	return rest
}

func (s span) has(v []int64) bool { return isZero(s.rest(v)) }

// add reports whether v was no sum of multiples before.
func (s span) add(v []int64) bool {
	rest := s.rest(v)
	if isZero(rest) {
		return false
	}
	place := firstPlace(rest)
	for factor := range s.p {
		if rest[place]*factor%s.p == 1 {
			s.vectors[place] = sumWith(filled(len(rest), 0), [][]int64{rest}, []int64{factor}, s.p)
		}
	}
	return true
}

// level is what the definitions say about the chains of a degree.
type level struct {
	c               impl.Complex
	k, p, size      int64
	down, up        impl.Matrix
	boundaries      span
	free, freeAbove []int64 // the columns of down and of up that are no pivots
	name            string
}

func levelOf(c impl.Complex, k, p int64) level {
	l := level{c: c, k: k, p: p, size: int64(len(simplicesOf(c, k))), down: boundaryMatrixOf(c, k, p), up: boundaryMatrixOf(c, k+1, p)}
	_, pivots := spanOf(p, columnsOf(l.down))
	l.free = othersOf(l.down.Columns, pivots)
	l.boundaries, pivots = spanOf(p, columnsOf(l.up))
	l.freeAbove = othersOf(l.up.Columns, pivots)
	l.name = fmt.Sprint(c, " in the degree ", k, " modulo ", p)
	return l
}

// othersOf returns the numbers less than count that are not in a list.
func othersOf(count int64, list []int64) []int64 {
	return slices.DeleteFunc(upTo(count), func(n int64) bool { return slices.Contains(list, n) })
}

func (l level) isCycle(chain []int64) bool { return isZero(imageOf(l.down, chain)) }

func (l level) String() string { return l.name }

// fits reports whether the limits leave room for the degree.
func (l level) fits() bool { return fitsDegree(l.c, l.k) }

func fitsDegree(c impl.Complex, k int64) bool {
	return max(len(simplicesOf(c, k-1)), len(simplicesOf(c, k)), len(simplicesOf(c, k+1))) <= impl.MaxSide
}

// cycles returns CycleBasis after a check: there is just one cycle with the numbers that it must have in the columns that are no pivots.
func (l level) cycles(t *testing.T) [][]int64 {
	t.Helper()
	cycles, code := impl.CycleBasis(l.c, l.k, l.p)
	checkEqual(t, fmt.Sprint("the number of cycles of CycleBasis, and the code, of ", l), []int64{int64(len(cycles)), code}, []int64{int64(len(l.free)), impl.OK})
	for i, cycle := range cycles {
		if !impl.ValidVector(cycle, l.p) || int64(len(cycle)) != l.size || !l.isCycle(cycle) {
			t.Fatalf("CycleBasis of %v: got %v, which is no cycle", l, cycle)
		}
		for j, column := range l.free {
			want := int64(0)
			if i == j {
				want = 1
			}
			checkEqual(t, fmt.Sprint("the number ", column, " of the cycle ", i, " of ", l), cycle[column], want)
		}
	}
	return cycles
}

// homology returns HomologyBasis after a check.
func (l level) homology(t *testing.T) [][]int64 {
	t.Helper()
	known, _ := spanOf(l.p, columnsOf(l.up))
	var want [][]int64
	for _, cycle := range l.cycles(t) {
		if known.add(cycle) {
			want = append(want, cycle)
		}
	}
	basis, code := impl.HomologyBasis(l.c, l.k, l.p)
	checkLists(t, fmt.Sprint("HomologyBasis of ", l), basis, code, want, impl.OK)
	return want
}

// checkChain checks all functions of a single chain.
func (l level) checkChain(t *testing.T, basis [][]int64, chain []int64) {
	t.Helper()
	what := fmt.Sprint(" of ", chain, " and ", l)
	boundary, code := impl.BoundaryOf(l.c, l.k, l.p, chain)
	checkVector(t, "BoundaryOf"+what, boundary, code, imageOf(l.down, chain), impl.OK)
	checkEqual(t, "IsCycle"+what, impl.IsCycle(l.c, l.k, l.p, chain), l.isCycle(chain))
	checkEqual(t, "IsBoundary"+what, impl.IsBoundary(l.c, l.k, l.p, chain), l.boundaries.has(chain))
	l.checkFilling(t, chain)
	class, code := impl.ClassOf(l.c, l.k, l.p, chain)
	if !l.isCycle(chain) {
		checkVector(t, "ClassOf"+what, class, code, nil, impl.ErrState)
		return
	}
	checkEqual(t, "the code of ClassOf"+what, code, impl.OK)
	if !impl.ValidVector(class, l.p) || len(class) != len(basis) {
		t.Fatalf("ClassOf%s: got %v", what, class)
	}
	sum := sumWith(make([]int64, l.size), basis, class, l.p)
	checkEqual(t, "whether the sum with ClassOf differs by a boundary"+what, l.boundaries.has(difference(chain, sum, l.p)), true)
}

// checkFilling checks FillingOf: there is just one filling that is 0 in the columns that are no pivots.
func (l level) checkFilling(t *testing.T, chain []int64) {
	t.Helper()
	filling, code := impl.FillingOf(l.c, l.k, l.p, chain)
	if !l.boundaries.has(chain) {
		checkVector(t, fmt.Sprint("FillingOf ", chain, " and ", l), filling, code, nil, impl.ErrNotFound)
		return
	}
	if code != impl.OK || !impl.ValidVector(filling, l.p) || int64(len(filling)) != l.up.Columns {
		t.Fatalf("FillingOf %v and %v: got %v with the code %q", chain, l, filling, impl.CodeName(code))
	}
	checkVector(t, fmt.Sprint("the boundary of the filling of ", chain, " and ", l), imageOf(l.up, filling), code, chain, impl.OK)
	for _, column := range l.freeAbove {
		checkEqual(t, fmt.Sprint("the free number ", column, " of the filling of ", chain, " and ", l), filling[column], 0)
	}
}

// sameHomology goes by the definition.
func (l level) sameHomology(a, b []int64) bool {
	return l.isCycle(a) && l.isCycle(b) && l.boundaries.has(difference(a, b, l.p))
}

// someChains returns random chains, boundaries, cycles, and cycles that a number has been changed of.
func (l level) someChains(r *rand.Rand, basis [][]int64, count int) [][]int64 {
	zero := make([]int64, l.size)
	chains := [][]int64{zero, filled(int(l.size), 1), filled(int(l.size), l.p-1), randomVector(r, l.p, int(l.size))}
	for range count {
		boundary := sumWith(zero, columnsOf(l.up), randomVector(r, l.p, int(l.up.Columns)), l.p)
		cycle := sumWith(boundary, basis, randomVector(r, l.p, len(basis)), l.p)
		chains = append(chains, boundary, cycle)
		if l.size > 0 {
			changed := slices.Clone(cycle)
			place := r.Intn(len(changed))
			changed[place] = (changed[place] + 1 + r.Int63n(l.p-1)) % l.p
			chains = append(chains, changed)
		}
	}
	return chains
}

// threeSphere, projectivePlane and moebiusBand are complexes with known numbers, as few vertices as possible.
func threeSphere() impl.Complex {
	return complexOf(allSimplices(5)...)
}

func projectivePlane() impl.Complex {
	return complexOf(closureOf([][]int64{{0, 1, 2}, {0, 2, 3}, {0, 3, 4}, {0, 4, 5}, {0, 1, 5}, {1, 2, 4}, {2, 3, 5}, {1, 3, 4}, {2, 4, 5}, {1, 3, 5}})...)
}

func moebiusBand() impl.Complex {
	return complexOf(closureOf([][]int64{{0, 1, 2}, {1, 2, 3}, {2, 3, 4}, {0, 3, 4}, {0, 1, 4}})...)
}

// edgesAndMore returns a complex with all of some vertices, the first edges of all, as many as count tells, and facets besides.
func edgesAndMore(vertices int64, count int, facets ...[]int64) impl.Complex {
	all := allSimplices(vertices)
	return complexOf(closureOf(append(all[:int(vertices)+count:int(vertices)+count], facets...))...)
}

// crowdedComplexes have exactly MaxSide edges, or one more, alone and with triangles and a simplex of MaxDimension.
func crowdedComplexes() map[string]impl.Complex {
	return map[string]impl.Complex{
		"32 edges of 10 vertices":                edgesAndMore(10, 32),
		"33 edges of 10 vertices":                edgesAndMore(10, 33),
		"38 edges":                               edgesAndMore(10, 38),
		"32 edges of 9 vertices":                 edgesAndMore(9, 32),
		"33 edges of 9 vertices":                 edgesAndMore(9, 33),
		"32 edges and triangles":                 edgesAndMore(9, 32, []int64{0, 1, 2}, []int64{0, 1, 3}, []int64{0, 2, 3}, []int64{1, 2, 3}, []int64{0, 4, 5}, []int64{1, 4, 5}),
		"33 edges and triangles":                 edgesAndMore(9, 33, []int64{0, 1, 2}, []int64{0, 1, 3}, []int64{0, 2, 3}, []int64{1, 2, 3}, []int64{0, 4, 5}, []int64{1, 4, 5}),
		"32 edges and a simplex of MaxDimension": edgesAndMore(9, 32, []int64{0, 1, 2, 3}, []int64{2, 3, 4}),
		"33 edges and a simplex of MaxDimension": edgesAndMore(9, 33, []int64{0, 1, 2, 3}, []int64{2, 3, 4}),
	}
}

// chainComplexes are all complexes with names.
func chainComplexes() map[string]impl.Complex {
	complexes := crowdedComplexes()
	for _, named := range []map[string]impl.Complex{namedComplexes(), {"a sphere of dimension 3": threeSphere(), "a projective plane": projectivePlane(), "a Moebius band": moebiusBand()}} {
		for what, c := range named {
			complexes[what] = c
		}
	}
	return complexes
}

// wrongDegrees are numbers that are no degrees.
func wrongDegrees() []int64 {
	return []int64{-1, impl.MaxDimension + 1, -2, 5, -impl.MaxDimension, 1 << 32, -1 << 32, 1<<32 + 1, 1 << 62, math.MinInt64, math.MinInt64 + 1, math.MaxInt64 - 1, math.MaxInt64}
}

// wrongChains are lists that are no chains modulo a prime on so many simplices.
func wrongChains(size int, p int64) [][]int64 {
	lists := [][]int64{filled(size+1, 0), filled(size+2, 1), filled(2*size+1, 0), filled(100000, 0)}
	if size > 0 {
		lists = append(lists, nil, []int64{}, filled(size-1, 0), filled(size-1, p-1))
	}
	for _, n := range outsideNumbers(p) {
		lists = append(lists, filled(size+1, n))
		for _, place := range []int{0, size / 2, size - 1} {
			if size > 0 {
				list := filled(size, 0)
				list[place] = n
				lists = append(lists, list)
			}
		}
	}
	return lists
}
