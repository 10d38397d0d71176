package tests

import (
	"fmt"
	"slices"
	"testing"

	"loop.example/g01005/impl"
)

// chainCall is a function of chapter 7 with a complex, a degree, a prime and a chain.
type chainCall func(c impl.Complex, k, p int64, chain []int64) (any, int64)

// degreeCalls are the functions without a chain, and chainCalls those with one.
func degreeCalls() map[string]chainCall {
	return map[string]chainCall{
		"BoundaryMatrix": func(c impl.Complex, k, p int64, _ []int64) (any, int64) { return impl.BoundaryMatrix(c, k, p) },
		"CycleBasis":     func(c impl.Complex, k, p int64, _ []int64) (any, int64) { return impl.CycleBasis(c, k, p) },
		"HomologyBasis":  func(c impl.Complex, k, p int64, _ []int64) (any, int64) { return impl.HomologyBasis(c, k, p) },
	}
}

func chainCalls() map[string]chainCall {
	return map[string]chainCall{
		"BoundaryOf": func(c impl.Complex, k, p int64, chain []int64) (any, int64) { return impl.BoundaryOf(c, k, p, chain) },
		"FillingOf":  func(c impl.Complex, k, p int64, chain []int64) (any, int64) { return impl.FillingOf(c, k, p, chain) },
		"ClassOf":    func(c impl.Complex, k, p int64, chain []int64) (any, int64) { return impl.ClassOf(c, k, p, chain) },
	}
}

// chainReports are the functions that report something; SameHomology gets its chain at both places, with itself or with zeros.
func chainReports() map[string]func(c impl.Complex, k, p int64, chain []int64) bool {
	zeros := func(c impl.Complex, k int64) []int64 { return make([]int64, len(simplicesOf(c, k))) }
	return map[string]func(c impl.Complex, k, p int64, chain []int64) bool{
		"IsCycle":      impl.IsCycle,
		"IsBoundary":   impl.IsBoundary,
		"SameHomology": func(c impl.Complex, k, p int64, chain []int64) bool { return impl.SameHomology(c, k, p, chain, chain) },
		"SameHomology before": func(c impl.Complex, k, p int64, chain []int64) bool {
			return impl.SameHomology(c, k, p, chain, zeros(c, k))
		},
		"SameHomology behind": func(c impl.Complex, k, p int64, chain []int64) bool {
			return impl.SameHomology(c, k, p, zeros(c, k), chain)
		},
	}
}

// isZeroResult reports whether a result is the zero value.
func isZeroResult(result any) bool {
	switch value := result.(type) {
	case int64:
		return value == 0
	case impl.Matrix:
		return equalMatrices(value, impl.Matrix{})
	case impl.Complex:
		return equalComplexes(value, impl.Complex{})
	case []int64:
		return len(value) == 0
	case [][]int64:
		return len(value) == 0
	}
	return false
}

// checkFails checks that there is no result but a code.
func checkFails(t *testing.T, what string, result any, code, wantCode int64) {
	t.Helper()
	if !isZeroResult(result) || code != wantCode {
		t.Errorf("%s: got %v with the code %q, want nothing with %q", what, result, impl.CodeName(code), impl.CodeName(wantCode))
	}
}

// checkNoChain checks the functions with a chain, and checkNoDegree all functions with a degree.
func checkNoChain(t *testing.T, c impl.Complex, k, p int64, chain []int64, wantCode int64) {
	t.Helper()
	what := fmt.Sprint(" with ", len(chain), " numbers, ", chain[:min(len(chain), 10)], ", in the degree ", k, " modulo ", p)
	for name, call := range chainCalls() {
		result, code := call(c, k, p, chain)
		checkFails(t, name+what, result, code, wantCode)
	}
	for name, report := range chainReports() {
		checkEqual(t, name+what, report(c, k, p, chain), false)
	}
}

func checkNoDegree(t *testing.T, c impl.Complex, k, p int64, chain []int64, wantCode int64) {
	t.Helper()
	checkNoChain(t, c, k, p, chain, wantCode)
	for name, call := range degreeCalls() {
		result, code := call(c, k, p, chain)
		checkFails(t, fmt.Sprint(name, " in the degree ", k, " modulo ", p), result, code, wantCode)
	}
}

// checkNoComplexOrPrime also checks the functions without a degree.
func checkNoComplexOrPrime(t *testing.T, c impl.Complex, k, p int64, chain []int64) {
	t.Helper()
	checkNoDegree(t, c, k, p, chain, impl.ErrInvalid)
	numbers, code := impl.BettiNumbers(c, p)
	checkFails(t, fmt.Sprint("BettiNumbers modulo ", p), numbers, code, impl.ErrInvalid)
	for _, path := range [][]int64{chain, nil, {0, 1, 0}, {0, 1, 2, 0}, {10, -1, 10}} {
		loop, code := impl.LoopChain(c, p, path)
		checkFails(t, fmt.Sprint("LoopChain modulo ", p), loop, code, impl.ErrInvalid)
	}
}

// TestChainsOfNoComplex also checks that this comes before all other errors.
func TestChainsOfNoComplex(t *testing.T) {
	t.Parallel()
	for _, c := range wrongComplexes() {
		for _, k := range []int64{0, 1, 2, 3, -1, 4} {
			for _, p := range []int64{2, 4, impl.MaxPrime} {
				for _, chain := range [][]int64{nil, {0}, {0, 0, 0}, {-1}} {
					checkNoComplexOrPrime(t, c, k, p, chain)
				}
			}
		}
	}
}

func TestChainsModuloNoPrime(t *testing.T) {
	t.Parallel()
	for _, c := range []impl.Complex{{}, complexOf([]int64{3}), torus(), edgesAndMore(10, 33)} {
		for _, p := range notPrimes() {
			for _, k := range append(wrongDegrees(), 0, 1, 2, 3) {
				for _, chain := range [][]int64{nil, make([]int64, len(simplicesOf(c, k))), {-1}} {
					checkNoComplexOrPrime(t, c, k, p, chain)
				}
			}
		}
	}
}

// TestChainsOfNoDegree also checks that this comes before too many simplices and wrong chains.
func TestChainsOfNoDegree(t *testing.T) {
	t.Parallel()
	for _, what := range sortedNames(chainComplexes()) {
		c := chainComplexes()[what]
		for _, k := range wrongDegrees() {
			for _, p := range []int64{2, 3, impl.MaxPrime} {
				for _, chain := range [][]int64{nil, {0}, {-1}, make([]int64, len(simplicesOf(c, 0))), filled(impl.MaxSide+1, 0)} {
					checkNoDegree(t, c, k, p, chain, impl.ErrRange)
				}
			}
		}
	}
}

// TestTooManySimplices also checks that this comes before wrong chains and paths.
func TestTooManySimplices(t *testing.T) {
	t.Parallel()
	for what, c := range crowdedComplexes() {
		count := len(simplicesOf(c, 1))
		isCrowded := count > impl.MaxSide
		checkEqual(t, "ValidComplex of "+what, impl.ValidComplex(c), true)
		for _, p := range []int64{2, impl.MaxPrime} {
			numbers, code := impl.BettiNumbers(c, p)
			checkEqual(t, "whether BettiNumbers has no result with "+what, isZeroResult(numbers) && code == impl.ErrFull, isCrowded)
			for _, path := range [][]int64{nil, {0}, {0, 1, 0}, {0, 1, 2}, {8, 8}, {-1, 10, -1}, filled(impl.MaxList+1, 0)} {
				loop, code := impl.LoopChain(c, p, path)
				if isCrowded {
					checkFails(t, "LoopChain with "+what, loop, code, impl.ErrFull)
				} else {
					checkEqual(t, "whether LoopChain has room for "+what, code != impl.ErrFull, true)
				}
			}
			for k := range int64(impl.MaxDimension + 1) {
				if isCrowded && k < impl.MaxDimension {
					for _, chain := range [][]int64{nil, make([]int64, len(simplicesOf(c, k))), {-1}, filled(100, 0)} {
						checkNoDegree(t, c, k, p, chain, impl.ErrFull)
					}
					continue
				}
				for name, call := range degreeCalls() {
					_, code := call(c, k, p, nil)
					checkEqual(t, fmt.Sprint("the code of ", name, " in the degree ", k, " with ", what), code, impl.OK)
				}
				for name, call := range chainCalls() {
					_, code := call(c, k, p, make([]int64, len(simplicesOf(c, k))))
					checkEqual(t, fmt.Sprint("the code of ", name, " in the degree ", k, " with ", what), code, impl.OK)
				}
			}
		}
	}
	counts := map[int]int{}
	for _, c := range crowdedComplexes() {
		counts[len(simplicesOf(c, 1))]++
	}
	checkEqual(t, "the complexes by their numbers of edges", counts, map[int]int{32: 4, 33: 4, 38: 1})
}

func TestListsThatAreNoChains(t *testing.T) {
	t.Parallel()
	for _, what := range sortedNames(chainComplexes()) {
		c := chainComplexes()[what]
		for k := range int64(impl.MaxDimension + 1) {
			for _, p := range []int64{2, 7, impl.MaxPrime} {
				if !fitsDegree(c, k) {
					continue
				}
				for _, chain := range wrongChains(len(simplicesOf(c, k)), p) {
					checkNoChain(t, c, k, p, chain, impl.ErrOrder)
				}
			}
		}
	}
}

// TestChainsWithoutAResult gives chains that are no cycles, or no boundaries, or neither.
func TestChainsWithoutAResult(t *testing.T) {
	ring := complexOf(allSimplices(3)[:6]...)
	for _, p := range allPrimes() {
		edge, loop := []int64{1, 0, 0}, []int64{1, p - 1, 1}
		class, code := impl.ClassOf(ring, 1, p, edge)
		checkFails(t, "ClassOf an edge", class, code, impl.ErrState)
		filling, code := impl.FillingOf(ring, 1, p, edge)
		checkFails(t, "FillingOf an edge", filling, code, impl.ErrNotFound)
		filling, code = impl.FillingOf(ring, 1, p, loop)
		checkFails(t, "FillingOf a loop", filling, code, impl.ErrNotFound)
		filling, code = impl.FillingOf(ring, 0, p, []int64{1, 0, 0})
		checkFails(t, "FillingOf a vertex", filling, code, impl.ErrNotFound)
		// A chain that is no cycle is not the same as anything, nor as itself.
		for _, other := range [][]int64{edge, loop, {0, 0, 0}, {0, 1, 0}, nil} {
			checkEqual(t, "SameHomology of an edge", impl.SameHomology(ring, 1, p, edge, other) || impl.SameHomology(ring, 1, p, other, edge), false)
		}
		checkEqual(t, "SameHomology of a loop", impl.SameHomology(ring, 1, p, loop, loop), true)
		checkEqual(t, "SameHomology of a loop and 0", impl.SameHomology(ring, 1, p, loop, []int64{0, 0, 0}), false)
		checkEqual(t, "SameHomology of an edge and no chain", impl.SameHomology(ring, 1, p, nil, []int64{0, 0}), false)
	}
}

// TestDegreesWithoutSimplices goes through all degrees above the greatest dimension of a complex, and all of the complex without simplices.
func TestDegreesWithoutSimplices(t *testing.T) {
	for _, c := range []impl.Complex{{}, {Simplices: [][]int64{}}, complexOf([]int64{7}), complexOf(allSimplices(3)[:6]...), complexOf(allSimplices(3)...)} {
		for _, p := range []int64{2, 3, impl.MaxPrime} {
			for k := range int64(impl.MaxDimension + 1) {
				if len(simplicesOf(c, k)) > 0 {
					continue
				}
				what := fmt.Sprint(" of ", c, " in the degree ", k)
				m, code := impl.BoundaryMatrix(c, k, p)
				checkMatrix(t, "BoundaryMatrix"+what, m, code, matrixOf(p, int64(len(simplicesOf(c, k-1))), 0), impl.OK)
				cycles, code := impl.CycleBasis(c, k, p)
				checkLists(t, "CycleBasis"+what, cycles, code, nil, impl.OK)
				basis, code := impl.HomologyBasis(c, k, p)
				checkLists(t, "HomologyBasis"+what, basis, code, nil, impl.OK)
				for _, chain := range [][]int64{nil, {}} {
					boundary, code := impl.BoundaryOf(c, k, p, chain)
					checkVector(t, "BoundaryOf"+what, boundary, code, make([]int64, len(simplicesOf(c, k-1))), impl.OK)
					filling, code := impl.FillingOf(c, k, p, chain)
					checkVector(t, "FillingOf"+what, filling, code, nil, impl.OK)
					class, code := impl.ClassOf(c, k, p, chain)
					checkVector(t, "ClassOf"+what, class, code, nil, impl.OK)
					checkEqual(t, "the reports"+what, []bool{impl.IsCycle(c, k, p, chain), impl.IsBoundary(c, k, p, chain), impl.SameHomology(c, k, p, chain, nil)}, []bool{true, true, true})
				}
			}
		}
	}
	numbers, code := impl.BettiNumbers(impl.Complex{}, 2)
	checkVector(t, "BettiNumbers of the complex without simplices", numbers, code, []int64{0, 0, 0, 0}, impl.OK)
	for _, path := range [][]int64{{0, 0}, {0, 1, 0}, {9, 8, 9}} {
		for _, c := range []impl.Complex{{}, complexOf([]int64{0}, []int64{9})} {
			loop, code := impl.LoopChain(c, 2, path)
			checkFails(t, "LoopChain without edges", loop, code, impl.ErrNotFound)
		}
	}
}

// TestDegreeZero checks the degree below which nothing lies, and TestGreatestDegree that above which nothing lies.
func TestDegreeZero(t *testing.T) {
	points := complexOf(allSimplices(impl.MaxVertices)[:impl.MaxVertices]...)
	unit := rowsOf(unitOf(7, impl.MaxVertices))
	m, code := impl.BoundaryMatrix(points, 0, 7)
	checkMatrix(t, "BoundaryMatrix of points", m, code, matrixOf(7, 0, impl.MaxVertices), impl.OK)
	cycles, code := impl.CycleBasis(points, 0, 7)
	checkLists(t, "CycleBasis of points", cycles, code, unit, impl.OK)
	basis, code := impl.HomologyBasis(points, 0, 7)
	checkLists(t, "HomologyBasis of points", basis, code, unit, impl.OK)
	chain := []int64{6, 5, 4, 3, 2, 1, 0, 1, 2, 3}
	boundary, code := impl.BoundaryOf(points, 0, 7, chain)
	checkVector(t, "BoundaryOf points", boundary, code, nil, impl.OK)
	class, code := impl.ClassOf(points, 0, 7, chain)
	checkVector(t, "ClassOf points", class, code, chain, impl.OK)
	filling, code := impl.FillingOf(points, 0, 7, make([]int64, impl.MaxVertices))
	checkVector(t, "FillingOf zeros", filling, code, nil, impl.OK)
	filling, code = impl.FillingOf(points, 0, 7, chain)
	checkVector(t, "FillingOf points", filling, code, nil, impl.ErrNotFound)
	checkEqual(t, "IsCycle of points", impl.IsCycle(points, 0, 7, chain), true)
}

func TestGreatestDegree(t *testing.T) {
	for _, p := range allPrimes() {
		all := []int64{1, p - 1, 1, p - 1, 1}
		cycles, code := impl.CycleBasis(threeSphere(), 3, p)
		checkLists(t, "CycleBasis", cycles, code, [][]int64{all}, impl.OK)
		basis, code := impl.HomologyBasis(threeSphere(), 3, p)
		checkLists(t, "HomologyBasis", basis, code, [][]int64{all}, impl.OK)
		for n := range p {
			multiple := sumWith(make([]int64, 5), cycles, []int64{n}, p)
			class, code := impl.ClassOf(threeSphere(), 3, p, multiple)
			checkVector(t, "ClassOf a multiple", class, code, []int64{n}, impl.OK)
			checkEqual(t, "IsBoundary of a multiple", impl.IsBoundary(threeSphere(), 3, p, multiple), n == 0)
			filling, code := impl.FillingOf(threeSphere(), 3, p, multiple)
			want := int64(impl.ErrNotFound)
			if n == 0 {
				want = impl.OK
			}
			checkVector(t, "FillingOf a multiple", filling, code, nil, want)
		}
		changed := slices.Clone(all)
		changed[4] = 0
		class, code := impl.ClassOf(threeSphere(), 3, p, changed)
		checkFails(t, "ClassOf a part", class, code, impl.ErrState)
	}
}
