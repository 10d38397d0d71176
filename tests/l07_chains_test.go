package tests

import (
	"fmt"
	"math/rand"
	"testing"

	"loop.example/g01005/impl"
)

// checkBoundaryMatrix checks BoundaryMatrix against the definition.
func checkBoundaryMatrix(t *testing.T, c impl.Complex, k, p int64) {
	t.Helper()
	m, code := impl.BoundaryMatrix(c, k, p)
	checkMatrix(t, fmt.Sprint("BoundaryMatrix of ", c, " in the degree ", k, " modulo ", p), m, code, boundaryMatrixOf(c, k, p), impl.OK)
}

// checkPairs checks SameHomology for all pairs of chains.
func (l level) checkPairs(t *testing.T, chains [][]int64) {
	t.Helper()
	for _, a := range chains {
		for _, b := range chains {
			checkEqual(t, fmt.Sprint("SameHomology of ", a, " and ", b, " and ", l), impl.SameHomology(l.c, l.k, l.p, a, b), l.sameHomology(a, b))
		}
	}
}

// allSums returns all sums of multiples of vectors; it is meant for few of them.
func allSums(p, length int64, vectors [][]int64) [][]int64 {
	var sums [][]int64
	for _, factors := range allVectors(p, int64(len(vectors))) {
		sums = append(sums, sumWith(make([]int64, length), vectors, factors, p))
	}
	return sums
}

// TestAllChainsOfSmallComplexes checks the helper span, too, by trying all sums of multiples.
func TestAllChainsOfSmallComplexes(t *testing.T) {
	t.Parallel()
	for _, c := range smallComplexes(4) {
		for k := range int64(impl.MaxDimension + 1) {
			for _, p := range []int64{2, 3} {
				checkBoundaryMatrix(t, c, k, p)
				l := levelOf(c, k, p)
				basis := l.homology(t)
				boundaries := reachedFrom(p, l.size, columnsOf(l.up))
				countCycles, countBoundaries := int64(0), int64(0)
				for n, chain := range allVectors(p, l.size) {
					checkEqual(t, "whether a chain is in the span of boundaries", l.boundaries.has(chain), boundaries[n])
					l.checkChain(t, basis, chain)
					if l.isCycle(chain) {
						countCycles++
					}
					if boundaries[n] {
						countBoundaries++
					}
				}
				checkEqual(t, fmt.Sprint("the number of classes of ", l), int64(len(allVectors(p, int64(len(basis))))), countCycles/countBoundaries)
			}
		}
	}
}

func TestAllPairsOfChainsOfSmallComplexes(t *testing.T) {
	t.Parallel()
	for _, c := range smallComplexes(3) {
		for k := range int64(impl.MaxDimension + 1) {
			for _, p := range []int64{2, 3} {
				l := levelOf(c, k, p)
				l.checkPairs(t, allVectors(p, l.size))
			}
		}
	}
}

// TestAllClassesOfSmallComplexes finds each class again in all cycles that belong to it.
func TestAllClassesOfSmallComplexes(t *testing.T) {
	t.Parallel()
	for _, c := range smallComplexes(4) {
		for k := range int64(impl.MaxDimension + 1) {
			for _, p := range []int64{2, 3, 5} {
				l := levelOf(c, k, p)
				basis := l.homology(t)
				for _, factors := range allVectors(p, int64(len(basis))) {
					for _, boundary := range [][]int64{make([]int64, l.size), sumWith(make([]int64, l.size), columnsOf(l.up), filled(int(l.up.Columns), 1), p)} {
						class, code := impl.ClassOf(c, k, p, sumWith(boundary, basis, factors, p))
						checkVector(t, fmt.Sprint("ClassOf a sum of ", l), class, code, factors, impl.OK)
					}
				}
			}
		}
	}
}

// checkDegree checks all functions of a degree with random chains; with too many simplices, there must be no result.
func checkDegree(t *testing.T, r *rand.Rand, c impl.Complex, k, p int64, count int) {
	t.Helper()
	l := levelOf(c, k, p)
	if !l.fits() {
		checkNoDegree(t, c, k, p, make([]int64, l.size), impl.ErrFull)
		return
	}
	checkBoundaryMatrix(t, c, k, p)
	basis := l.homology(t)
	chains := l.someChains(r, basis, count)
	for _, chain := range chains {
		l.checkChain(t, basis, chain)
	}
	l.checkPairs(t, chains[:min(len(chains), 10)])
	for range count {
		factors := randomVector(r, p, len(basis))
		boundary := sumWith(make([]int64, l.size), columnsOf(l.up), randomVector(r, p, int(l.up.Columns)), p)
		cycle := sumWith(boundary, basis, factors, p)
		class, code := impl.ClassOf(c, k, p, cycle)
		checkVector(t, fmt.Sprint("ClassOf ", cycle, " and ", l), class, code, factors, impl.OK)
		checkEqual(t, fmt.Sprint("SameHomology of ", cycle, " and another one of its class and ", l), impl.SameHomology(c, k, p, cycle, sumWith(make([]int64, l.size), basis, factors, p)), true)
	}
}

func TestChainsOfNamedComplexes(t *testing.T) {
	t.Parallel()
	r := rand.New(rand.NewSource(41))
	for _, what := range sortedNames(chainComplexes()) {
		c := chainComplexes()[what]
		for k := range int64(impl.MaxDimension + 1) {
			for _, p := range somePrimes() {
				checkDegree(t, r, c, k, p, 3)
			}
		}
	}
}

func TestChainsOfRandomComplexes(t *testing.T) {
	t.Parallel()
	r := rand.New(rand.NewSource(42))
	primes := allPrimes()
	for i := range 100 {
		c := randomComplex(r)
		for k := range int64(impl.MaxDimension + 1) {
			checkDegree(t, r, c, k, primes[i%len(primes)], 3)
		}
	}
}

func TestExamplesOfBoundaries(t *testing.T) {
	text := func(c impl.Complex, k, p int64, want string) {
		t.Helper()
		m, code := impl.BoundaryMatrix(c, k, p)
		checkEqual(t, "the code of BoundaryMatrix", code, impl.OK)
		checkEqual(t, fmt.Sprint("BoundaryMatrix in the degree ", k), impl.MatrixText(m), want)
	}
	simplex := complexOf(allSimplices(4)...)
	text(simplex, 0, 7, "7 0x4")
	text(simplex, 1, 7, "7 4x6/6,6,6,0,0,0/1,0,0,6,6,0/0,1,0,1,0,6/0,0,1,0,1,1")
	text(simplex, 2, 7, "7 6x4/1,1,0,0/6,0,1,0/0,6,6,0/1,0,0,1/0,1,0,6/0,0,1,1")
	text(simplex, 3, 7, "7 4x1/6/1/6/1")
	text(simplex, 3, 2, "2 4x1/1/1/1/1")
	text(simplex, 3, 251, "251 4x1/250/1/250/1")
	text(complexOf([]int64{5}), 0, 2, "2 0x1")
	text(complexOf([]int64{5}), 1, 2, "2 1x0/-")
	text(complexOf([]int64{5}), 2, 2, "2 0x0")
	// The rows and columns are those of the complex, in its order, whatever its vertices are called.
	text(complexOf(closureOf([][]int64{{2, 9}, {5, 7}, {7, 9}})...), 1, 3, "3 4x3/2,0,0/0,2,0/0,1,2/1,0,1")
	filling := func(c impl.Complex, k, p int64, chain []int64, want ...int64) {
		t.Helper()
		got, code := impl.FillingOf(c, k, p, chain)
		checkVector(t, fmt.Sprint("FillingOf ", chain), got, code, want, impl.OK)
	}
	// Each of the three other triangles of a sphere fills the boundary of the last one, which is not a pivot.
	sphere := complexOf(allSimplices(4)[:14]...)
	filling(sphere, 1, 7, []int64{0, 0, 0, 1, 6, 1}, 1, 6, 1, 0)
	filling(simplex, 2, 7, []int64{6, 1, 6, 1}, 1)
	filling(simplex, 2, 7, []int64{2, 5, 2, 5}, 5)
	filling(simplex, 3, 7, []int64{0})
	filling(simplex, 0, 7, []int64{6, 0, 0, 1}, 0, 0, 1, 0, 0, 0)
	filling(simplex, 0, 7, []int64{1, 2, 3, 1}, 2, 3, 1, 0, 0, 0)
}

// TestBoundariesHaveNoBoundary checks the first half of P8.
func TestBoundariesHaveNoBoundary(t *testing.T) {
	t.Parallel()
	r := rand.New(rand.NewSource(43))
	complexes := smallComplexes(4)
	for _, c := range chainComplexes() {
		complexes = append(complexes, c)
	}
	for range 100 {
		complexes = append(complexes, randomComplex(r))
	}
	count := 0
	for _, c := range complexes {
		for k := int64(1); k <= impl.MaxDimension; k++ {
			if !fitsDegree(c, k) || !fitsDegree(c, k-1) {
				continue
			}
			for _, p := range somePrimes() {
				upper, code := impl.BoundaryMatrix(c, k, p)
				lower, lowerCode := impl.BoundaryMatrix(c, k-1, p)
				checkEqual(t, "the codes", []int64{code, lowerCode}, []int64{impl.OK, impl.OK})
				product, code := impl.Multiply(lower, upper)
				checkMatrix(t, "the boundary of boundaries", product, code, filledMatrix(p, lower.Rows, upper.Columns, 0), impl.OK)
				chain := randomVector(r, p, int(upper.Columns))
				boundary, code := impl.BoundaryOf(c, k, p, chain)
				checkEqual(t, "the code of BoundaryOf", code, impl.OK)
				again, code := impl.BoundaryOf(c, k-1, p, boundary)
				checkVector(t, "the boundary of a boundary", again, code, make([]int64, lower.Rows), impl.OK)
				checkEqual(t, "whether a boundary is one, and a cycle", impl.IsBoundary(c, k-1, p, boundary) && impl.IsCycle(c, k-1, p, boundary), true)
				if !isZero(boundary) {
					count++
				}
			}
		}
	}
	checkEqual(t, "whether many boundaries were not 0", count > 1000, true)
}
