package tests

import (
	"fmt"
	"math/rand"
	"testing"

	"loop.example/g01005/impl"
)

// crowded reports whether a complex of a map has too many simplices of a dimension.
func (f aMap) crowded(k int64) bool {
	return max(len(simplicesOf(f.a, k)), len(simplicesOf(f.b, k))) > impl.MaxSide
}

// crowdedAround reports it for the dimensions next to k, too.
func (f aMap) crowdedAround(k int64) bool { return !fitsDegree(f.a, k) || !fitsDegree(f.b, k) }

// chainMap returns ChainMap after a check.
func (f aMap) chainMap(t *testing.T, k, p int64) impl.Matrix {
	t.Helper()
	what := fmt.Sprint("ChainMap in the degree ", k, " modulo ", p, " of ", f)
	m, code := impl.ChainMap(f.a, f.b, f.images, k, p)
	if f.crowded(k) {
		checkNoMatrix(t, what, m, code, impl.ErrFull)
		return impl.Matrix{}
	}
	want := chainMatrixOf(f.a, f.b, f.images, k, p)
	checkMatrix(t, what, m, code, want, impl.OK)
	checkEqual(t, "ValidMatrix of "+what, impl.ValidMatrix(m), true)
	return want
}

// inducedRank returns InducedRank after a check, and 0 if there is no room for it.
func (f aMap) inducedRank(t *testing.T, k, p int64) int64 {
	t.Helper()
	want, wantCode := int64(0), int64(impl.ErrFull)
	if !f.crowdedAround(k) {
		want, wantCode = inducedRankOf(f.a, f.b, f.images, k, p), impl.OK
	}
	rank, code := impl.InducedRank(f.a, f.b, f.images, k, p)
	checkNumber(t, fmt.Sprint("InducedRank in the degree ", k, " modulo ", p, " of ", f), rank, code, want, wantCode)
	return want
}

// checkWithBoundaries checks the first half of P9: it is the same to take the boundary before a map or behind it.
func checkWithBoundaries(t *testing.T, f aMap, k, p int64) {
	t.Helper()
	if k == 0 || f.crowdedAround(k) || f.crowded(k-1) || f.crowdedAround(k-1) {
		return
	}
	first, _ := impl.BoundaryMatrix(f.a, k, p)
	second, _ := impl.BoundaryMatrix(f.b, k, p)
	behind, code := impl.Multiply(second, f.chainMap(t, k, p))
	before, _ := impl.Multiply(f.chainMap(t, k-1, p), first)
	checkMatrix(t, fmt.Sprint("the boundary of the images in the degree ", k, " modulo ", p, " of ", f), behind, code, before, impl.OK)
}

func checkChains(t *testing.T, f aMap, p int64) {
	t.Helper()
	for k := range int64(impl.MaxDimension + 1) {
		f.chainMap(t, k, p)
		f.inducedRank(t, k, p)
		checkWithBoundaries(t, f, k, p)
	}
}

func TestChainsOfMaps(t *testing.T) {
	t.Parallel()
	for _, f := range namedMaps() {
		for _, p := range []int64{2, 3, impl.MaxPrime} {
			checkChains(t, f, p)
		}
	}
	for _, f := range smallMaps(t) {
		for _, p := range allPrimes() {
			checkChains(t, f, p)
		}
	}
	r := rand.New(rand.NewSource(83))
	primes := allPrimes()
	for i := range 200 {
		checkChains(t, randomMap(r), primes[i%len(primes)])
	}
}

// TestChainsOfAllMapsOfASimplex goes through all orders of vertices, and all ways in which they fall together.
func TestChainsOfAllMapsOfASimplex(t *testing.T) {
	t.Parallel()
	a := complexOf(closureOf([][]int64{{1, 4, 8, 9}})...)
	b := complexOf(closureOf([][]int64{{0, 3, 5, 7}})...)
	for _, images := range listsOf(verticesOf(b), 4) {
		if len(images) == 4 {
			for _, p := range []int64{2, 5} {
				checkChains(t, aMap{a, b, images}, p)
			}
		}
	}
}

// TestChainsOfCompositions: the matrix of two maps as one is the product, and that of the identity is the unit matrix.
func TestChainsOfCompositions(t *testing.T) {
	t.Parallel()
	r := rand.New(rand.NewSource(84))
	for range 150 {
		f := randomMap(r)
		g := randomNext(r, f)
		images, _ := impl.ComposeMaps(f.a, f.b, g.b, f.images, g.images)
		both := aMap{f.a, g.b, images}
		for k := range int64(impl.MaxDimension + 1) {
			if f.crowded(k) || g.crowded(k) {
				continue
			}
			product, code := impl.Multiply(g.chainMap(t, k, 7), f.chainMap(t, k, 7))
			checkMatrix(t, fmt.Sprint("the product for ", f, " and ", g), product, code, both.chainMap(t, k, 7), impl.OK)
			checkEqual(t, fmt.Sprint("whether the rank is small enough, of ", f, " and ", g), both.inducedRank(t, k, 7) <= min(f.inducedRank(t, k, 7), g.inducedRank(t, k, 7)) || f.crowdedAround(k) || g.crowdedAround(k), true)
		}
	}
	for what, c := range chainComplexes() {
		f := identityOf(c)
		for k := range int64(impl.MaxDimension + 1) {
			if f.crowded(k) {
				continue
			}
			m, code := impl.ChainMap(c, c, f.images, k, 5)
			checkMatrix(t, "ChainMap of the identity of "+what, m, code, unitOf(5, int64(len(simplicesOf(c, k)))), impl.OK)
			if rank, code := impl.InducedRank(c, c, f.images, k, 5); !f.crowdedAround(k) {
				checkNumber(t, "InducedRank of the identity of "+what, rank, code, levelOf(c, k, 5).betti(), impl.OK)
			}
		}
	}
}

// TestKnownRanks: a ring that leads n times around another one is a multiple of it by n, so that its rank is 0 where p divides n.
func TestKnownRanks(t *testing.T) {
	t.Parallel()
	named := namedMaps()
	for _, p := range allPrimes() {
		around := func(n int64) []int64 {
			if n%p == 0 {
				return []int64{1, 0, 0, 0}
			}
			return []int64{1, 1, 0, 0}
		}
		for what, want := range map[string][]int64{
			"once around": around(1), "twice around": around(2), "three times around": around(3), "twice around a ring of 5": around(2), "a ring folded": around(0),
			"no simplices to none": {0, 0, 0, 0}, "no simplices to a torus": {0, 0, 0, 0}, "a simplex to an edge": {1, 0, 0, 0}, "points to others": {2, 0, 0, 0},
			"a sphere with two exchanged": {1, 0, 1, 0}, "a sphere rotated": {1, 0, 1, 0}, "a sphere in a simplex": {1, 0, 0, 0}, "a sphere flat": {1, 0, 0, 0}, "a part of a sphere of 3": {1, 0, 0, 0},
			"a torus rotated": {1, 2, 1, 0}, "a torus turned around": {1, 2, 1, 0}, "a torus with other names": {1, 2, 1, 0}, "to a vertex, of a torus": {1, 0, 0, 0},
			"a sphere of 3 with two exchanged": {1, 0, 0, 1}, "to a vertex, of all vertices": {1, 0, 0, 0},
		} {
			f := named[what]
			for k := range int64(impl.MaxDimension + 1) {
				rank, code := impl.InducedRank(f.a, f.b, f.images, k, p)
				checkNumber(t, fmt.Sprint("InducedRank, ", what, ", in the degree ", k, " modulo ", p), rank, code, want[k], impl.OK)
			}
		}
	}
}

// TestKnownMatrices has maps that keep the order of vertices, turn it around, exchange some, and tell some the same vertex.
func TestKnownMatrices(t *testing.T) {
	disc, _ := impl.ReadComplex("0,1,2")
	for _, p := range allPrimes() {
		turned := []int64{1, p - 1}
		for _, given := range []struct {
			images   []int64
			edges    []int64
			triangle int64
		}{
			{[]int64{0, 1, 2}, []int64{1, 0, 0, 0, 1, 0, 0, 0, 1}, 1},
			{[]int64{2, 1, 0}, []int64{0, 0, turned[1], 0, turned[1], 0, turned[1], 0, 0}, turned[1]},
			{[]int64{1, 0, 2}, []int64{turned[1], 0, 0, 0, 0, 1, 0, 1, 0}, turned[1]},
			{[]int64{1, 2, 0}, []int64{0, turned[1], 0, 0, 0, turned[1], 1, 0, 0}, 1},
			{[]int64{2, 2, 0}, []int64{0, 0, 0, 0, turned[1], turned[1], 0, 0, 0}, 0},
			{[]int64{0, 1, 0}, []int64{1, 0, turned[1], 0, 0, 0, 0, 0, 0}, 0},
			{[]int64{1, 1, 1}, filled(9, 0), 0},
		} {
			what := fmt.Sprint("ChainMap of ", given.images, " modulo ", p)
			m, code := impl.ChainMap(disc, disc, given.images, 1, p)
			checkMatrix(t, what, m, code, matrixOf(p, 3, 3, given.edges...), impl.OK)
			m, code = impl.ChainMap(disc, disc, given.images, 2, p)
			checkMatrix(t, what, m, code, matrixOf(p, 1, 1, given.triangle), impl.OK)
			m, code = impl.ChainMap(disc, disc, given.images, 3, p)
			checkMatrix(t, what, m, code, matrixOf(p, 0, 0), impl.OK)
		}
	}
	// The degree 0 only tells which vertex is told for which one.
	m, code := impl.ChainMap(disc, disc, []int64{2, 0, 2}, 0, 7)
	checkMatrix(t, "ChainMap in the degree 0", m, code, matrixOf(7, 3, 3, 0, 1, 0, 0, 0, 0, 1, 0, 1), impl.OK)
	// The degree MaxDimension, with one exchange, with two, and with three.
	simplex := complexOf(allSimplices(4)...)
	for _, given := range [][]int64{{0, 1, 2, 3, 1}, {1, 0, 2, 3, 6}, {1, 0, 3, 2, 1}, {1, 2, 3, 0, 6}, {3, 2, 1, 0, 1}, {3, 1, 2, 0, 6}, {3, 1, 1, 0, 0}} {
		m, code := impl.ChainMap(simplex, simplex, given[:4], impl.MaxDimension, 7)
		checkMatrix(t, fmt.Sprint("ChainMap of ", given[:4]), m, code, matrixOf(7, 1, 1, given[4]), impl.OK)
	}
}

// TestDegreesWithoutSimplicesOfMaps: either complex may have no simplices of a degree.
func TestDegreesWithoutSimplicesOfMaps(t *testing.T) {
	for _, p := range []int64{2, impl.MaxPrime} {
		for _, sizes := range [][2]int{{0, 0}, {0, 3}, {3, 0}} {
			k := int64(1)
			a := complexOf(allSimplices(3)[:3+sizes[0]]...)
			b := complexOf(allSimplices(3)[:3+sizes[1]]...)
			f := constantOf(a, b, 2)
			m, code := impl.ChainMap(a, b, f.images, k, p)
			checkMatrix(t, fmt.Sprint("ChainMap of ", f), m, code, matrixOf(p, int64(sizes[1]), int64(sizes[0])), impl.OK)
			rank, code := impl.InducedRank(a, b, f.images, k, p)
			checkNumber(t, fmt.Sprint("InducedRank of ", f), rank, code, 0, impl.OK)
		}
		for k := range int64(impl.MaxDimension + 1) {
			m, code := impl.ChainMap(impl.Complex{}, torus(), nil, k, p)
			checkMatrix(t, "ChainMap of no simplices", m, code, matrixOf(p, int64(len(simplicesOf(torus(), k))), 0), impl.OK)
			m, code = impl.ChainMap(impl.Complex{}, impl.Complex{}, nil, k, p)
			checkMatrix(t, "ChainMap of no simplices to none", m, code, matrixOf(p, 0, 0), impl.OK)
		}
	}
}

// crowdedMaps returns maps of which one complex has more than MaxSide edges, or both have, or both have just as many.
func crowdedMaps() []aMap {
	exact := edgesAndMore(9, 32, []int64{0, 1, 2, 3})
	more := edgesAndMore(9, 33, []int64{0, 1, 2, 3})
	point := complexOf([]int64{0})
	return []aMap{identityOf(exact), constantOf(exact, point, 0), constantOf(point, exact, 8), identityOf(more), constantOf(more, point, 0), constantOf(point, more, 8), {exact, more, upTo(9)}, constantOf(more, exact, 5), {b: more}, {b: exact}}
}

func TestMapsOfTooManySimplices(t *testing.T) {
	counts := map[int64]int{}
	for _, f := range crowdedMaps() {
		most := max(len(simplicesOf(f.a, 1)), len(simplicesOf(f.b, 1)))
		for k := range int64(impl.MaxDimension + 1) {
			// ChainMap has no room for edges in the degree 1 only, and InducedRank none in those next to it either.
			want, wantRank := int64(impl.OK), int64(impl.OK)
			if most > impl.MaxSide && k == 1 {
				want = impl.ErrFull
			}
			if most > impl.MaxSide && k <= 2 {
				wantRank = impl.ErrFull
			}
			_, code := impl.ChainMap(f.a, f.b, f.images, k, 3)
			checkEqual(t, fmt.Sprint("the code of ChainMap in the degree ", k, " of ", f), code, want)
			_, rankCode := impl.InducedRank(f.a, f.b, f.images, k, 3)
			checkEqual(t, fmt.Sprint("the code of InducedRank in the degree ", k, " of ", f), rankCode, wantRank)
			counts[10*code+rankCode]++
			f.chainMap(t, k, 3)
			f.inducedRank(t, k, 3)
		}
	}
	checkEqual(t, "the codes", counts, map[int64]int{0: 4*4 + 6, 5: 2 * 6, 55: 6})
}
