package tests

import (
	"fmt"
	"math/rand"
	"testing"

	"loop.example/g01005/impl"
)

// betti counts columns that are no pivots, and the pivots of the next degree.
func (l level) betti() int64 {
	return int64(len(l.free)) - (l.up.Columns - int64(len(l.freeAbove)))
}

func bettiNumbersOf(c impl.Complex, p int64) []int64 {
	var numbers []int64
	for k := range int64(impl.MaxDimension + 1) {
		numbers = append(numbers, levelOf(c, k, p).betti())
	}
	return numbers
}

// checkBetti checks BettiNumbers, and with them the second half of P8.
func checkBetti(t *testing.T, c impl.Complex, p int64) {
	t.Helper()
	what := fmt.Sprint(" of ", c, " modulo ", p)
	numbers, code := impl.BettiNumbers(c, p)
	if len(simplicesOf(c, 1)) > impl.MaxSide {
		checkVector(t, "BettiNumbers"+what, numbers, code, nil, impl.ErrFull)
		return
	}
	checkVector(t, "BettiNumbers"+what, numbers, code, bettiNumbersOf(c, p), impl.OK)
	euler, code := impl.EulerNumber(c)
	checkNumber(t, "EulerNumber"+what, euler, code, numbers[0]-numbers[1]+numbers[2]-numbers[3], impl.OK)
	for k, number := range numbers {
		basis, code := impl.HomologyBasis(c, int64(k), p)
		checkNumber(t, fmt.Sprint("the number of cycles of HomologyBasis in the degree ", k, what), int64(len(basis)), code, number, impl.OK)
	}
	parts, code := impl.PartsOf(c)
	different := map[int64]bool{}
	for _, part := range parts {
		different[part] = true
	}
	checkNumber(t, "the number of parts"+what, int64(len(different)), code, numbers[0], impl.OK)
}

func TestBettiNumbers(t *testing.T) {
	t.Parallel()
	for _, c := range smallComplexes(4) {
		for _, p := range []int64{2, 3, impl.MaxPrime} {
			checkBetti(t, c, p)
		}
	}
	for _, c := range smallComplexes(5)[:4000] {
		checkBetti(t, c, 2)
	}
	for _, c := range chainComplexes() {
		for _, p := range somePrimes() {
			checkBetti(t, c, p)
		}
	}
	r := rand.New(rand.NewSource(44))
	primes := allPrimes()
	for i := range 500 {
		checkBetti(t, randomComplex(r), primes[i%len(primes)])
	}
}

func TestKnownBettiNumbers(t *testing.T) {
	named := chainComplexes()
	for what, want := range map[string][]int64{
		"no simplices": {0, 0, 0, 0}, "a vertex": {1, 0, 0, 0}, "the last vertex": {1, 0, 0, 0}, "an edge": {1, 0, 0, 0}, "a simplex": {1, 0, 0, 0}, "all vertices": {10, 0, 0, 0},
		"as many, in two parts": {2, 4, 0, 0}, "a sphere": {1, 0, 1, 0}, "a sphere of dimension 3": {1, 0, 0, 1}, "a torus": {1, 2, 1, 0}, "a Moebius band": {1, 1, 0, 0},
		"a path in disorder": {1, 0, 0, 0}, "parts in disorder": {4, 0, 0, 0}, "a part of great vertices": {2, 0, 0, 0},
		"32 edges of 10 vertices": {1, 23, 0, 0}, "32 edges of 9 vertices": {1, 24, 0, 0}, "32 edges and triangles": {1, 19, 1, 0}, "32 edges and a simplex of MaxDimension": {1, 20, 0, 0},
	} {
		for _, p := range allPrimes() {
			numbers, code := impl.BettiNumbers(named[what], p)
			checkVector(t, fmt.Sprint("BettiNumbers of ", what, " modulo ", p), numbers, code, want, impl.OK)
		}
	}
	// Only modulo 2, all triangles of a projective plane together have no boundary.
	for _, p := range allPrimes() {
		want := []int64{1, 0, 0, 0}
		if p == 2 {
			want = []int64{1, 1, 1, 0}
		}
		numbers, code := impl.BettiNumbers(projectivePlane(), p)
		checkVector(t, fmt.Sprint("BettiNumbers of a projective plane modulo ", p), numbers, code, want, impl.OK)
	}
}

func TestExamplesOfBases(t *testing.T) {
	lists := func(what string, got [][]int64, code int64, want ...[]int64) {
		t.Helper()
		checkLists(t, what, got, code, want, impl.OK)
	}
	// Two rings at the vertex 2, of which one is filled, and a vertex alone.
	c := complexOf(closureOf([][]int64{{0, 1, 2}, {2, 3}, {2, 4}, {3, 4}, {9}})...)
	cycles, code := impl.CycleBasis(c, 1, 5)
	lists("CycleBasis", cycles, code, []int64{1, 4, 1, 0, 0, 0}, []int64{0, 0, 0, 1, 4, 1})
	basis, code := impl.HomologyBasis(c, 1, 5)
	lists("HomologyBasis", basis, code, []int64{0, 0, 0, 1, 4, 1})
	basis, code = impl.HomologyBasis(c, 0, 5)
	lists("HomologyBasis in the degree 0", basis, code, []int64{1, 0, 0, 0, 0, 0}, []int64{0, 0, 0, 0, 0, 1})
	cycles, code = impl.CycleBasis(c, 2, 5)
	lists("CycleBasis in the degree 2", cycles, code)
	class, code := impl.ClassOf(c, 1, 5, []int64{2, 3, 2, 3, 2, 3})
	checkVector(t, "ClassOf", class, code, []int64{3}, impl.OK)
	class, code = impl.ClassOf(c, 0, 5, []int64{1, 2, 3, 4, 4, 2})
	checkVector(t, "ClassOf in the degree 0", class, code, []int64{4, 2}, impl.OK)
	checkEqual(t, "SameHomology", impl.SameHomology(c, 1, 5, []int64{2, 3, 2, 3, 2, 3}, []int64{0, 0, 0, 3, 2, 3}), true)
	// In a sphere, the last triangle is no pivot; the other ones of the cycle are given by it.
	cycles, code = impl.CycleBasis(complexOf(allSimplices(4)[:14]...), 2, 7)
	lists("CycleBasis of a sphere", cycles, code, []int64{6, 1, 6, 1})
	cycles, code = impl.CycleBasis(complexOf(allSimplices(4)...), 1, 7)
	lists("CycleBasis of a simplex", cycles, code, []int64{1, 6, 0, 1, 0, 0}, []int64{1, 0, 6, 0, 1, 0}, []int64{0, 1, 6, 0, 0, 1})
	basis, code = impl.HomologyBasis(complexOf(allSimplices(4)...), 1, 7)
	lists("HomologyBasis of a simplex", basis, code)
	basis, code = impl.HomologyBasis(complexOf(allSimplices(4)...), 2, 7)
	lists("HomologyBasis of a simplex in the degree 2", basis, code)
	// With one triangle, the second and the third cycle differ by a boundary, and the first one is the first to be taken.
	one := complexOf(append(allSimplices(4)[:10:10], []int64{1, 2, 3})...)
	basis, code = impl.HomologyBasis(one, 1, 7)
	lists("HomologyBasis with one triangle", basis, code, []int64{1, 6, 0, 1, 0, 0}, []int64{1, 0, 6, 0, 1, 0})
	class, code = impl.ClassOf(one, 1, 7, []int64{0, 1, 6, 0, 0, 1})
	checkVector(t, "ClassOf a cycle that was not taken", class, code, []int64{6, 1}, impl.OK)
}

// TestBoundaryOfAMoebiusBand goes along the edge of a Moebius band, which is twice its middle.
func TestBoundaryOfAMoebiusBand(t *testing.T) {
	for _, p := range allPrimes() {
		middle, code := impl.LoopChain(moebiusBand(), p, []int64{0, 1, 2, 3, 4, 0})
		checkEqual(t, "the code of the middle", code, impl.OK)
		rim, code := impl.LoopChain(moebiusBand(), p, []int64{0, 2, 4, 1, 3, 0})
		checkEqual(t, "the code of the rim", code, impl.OK)
		once, code := impl.ClassOf(moebiusBand(), 1, p, middle)
		checkEqual(t, "whether the middle has a class other than 0, and the code", []bool{isZero(once), code == impl.OK}, []bool{false, true})
		twice, code := impl.ClassOf(moebiusBand(), 1, p, rim)
		checkVector(t, "the class of the rim", twice, code, []int64{2 * once[0] % p}, impl.OK)
		checkEqual(t, "whether the rim bounds the band", impl.IsBoundary(moebiusBand(), 1, p, rim), p == 2)
		checkEqual(t, "whether the rim is like the middle", impl.SameHomology(moebiusBand(), 1, p, rim, middle), false)
		all, code := impl.BoundaryOf(moebiusBand(), 2, p, filled(5, 1))
		checkEqual(t, "the code of BoundaryOf", code, impl.OK)
		checkEqual(t, "whether all triangles have the rim as their boundary", impl.SameHomology(moebiusBand(), 1, p, all, filled(10, 0)), true)
	}
}
