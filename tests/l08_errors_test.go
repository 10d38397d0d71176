package tests

import (
	"fmt"
	"testing"

	"loop.example/g01005/impl"
)

// mapCall is a function of a map; those without a degree and a prime get an index at their place.
type mapCall func(f aMap, k, p int64) (any, int64)

// indexMaps are the functions of a map and an index, and plainMaps those without; ComposeMaps gets the map at both places.
func indexMaps() map[string]mapCall {
	return map[string]mapCall{
		"SimplexImage": func(f aMap, k, _ int64) (any, int64) { return impl.SimplexImage(f.a, f.b, f.images, k) },
		"FibreOf":      func(f aMap, k, _ int64) (any, int64) { return impl.FibreOf(f.a, f.b, f.images, k) },
	}
}

func plainMaps() map[string]mapCall {
	none := impl.Complex{}
	return map[string]mapCall{
		"MapImage": func(f aMap, _, _ int64) (any, int64) { return impl.MapImage(f.a, f.b, f.images) },
		"ComposeMaps first": func(f aMap, _, _ int64) (any, int64) {
			return impl.ComposeMaps(f.a, f.b, f.b, f.images, verticesOf(f.b))
		},
		"ComposeMaps second": func(f aMap, _, _ int64) (any, int64) { return impl.ComposeMaps(none, f.a, f.b, nil, f.images) },
		"ComposeMaps both":   func(f aMap, _, _ int64) (any, int64) { return impl.ComposeMaps(f.a, f.b, f.b, f.images, f.images) },
	}
}

func degreeMaps() map[string]mapCall {
	return map[string]mapCall{
		"ChainMap":    func(f aMap, k, p int64) (any, int64) { return impl.ChainMap(f.a, f.b, f.images, k, p) },
		"InducedRank": func(f aMap, k, p int64) (any, int64) { return impl.InducedRank(f.a, f.b, f.images, k, p) },
	}
}

// checkMapFails checks that all of some functions have no result but a code.
func checkMapFails(t *testing.T, calls map[string]mapCall, f aMap, k, p, wantCode int64) {
	t.Helper()
	for name, call := range calls {
		result, code := call(f, k, p)
		if !isZeroResult(result) || code != wantCode {
			t.Errorf("%s with %d and %d of %.300s: got %v with the code %q, want nothing with %q", name, k, p, f, result, impl.CodeName(code), impl.CodeName(wantCode))
		}
	}
}

// checkNoMap checks all functions of a map.
func checkNoMap(t *testing.T, f aMap, k, p, wantCode int64) {
	t.Helper()
	checkMapFails(t, indexMaps(), f, k, p, wantCode)
	checkMapFails(t, plainMaps(), f, k, p, wantCode)
	checkMapFails(t, degreeMaps(), f, k, p, wantCode)
	checkEqual(t, "IsMap", impl.IsMap(f.a, f.b, f.images), false)
}

// checkNoCollapse checks all functions of a single complex, and CountMaps with it at both places.
func checkNoCollapse(t *testing.T, what string, c impl.Complex, number int64) {
	t.Helper()
	pairs, code := impl.FreePairs(c)
	checkFails(t, "FreePairs of "+what, pairs, code, impl.ErrInvalid)
	left, code := impl.CollapsePair(c, number)
	checkFails(t, "CollapsePair of "+what, left, code, impl.ErrInvalid)
	left, removed, code := impl.GreedyCollapse(c)
	checkFails(t, "GreedyCollapse of "+what, left, code, impl.ErrInvalid)
	checkEqual(t, "the number of pairs removed from "+what, removed, 0)
	faces, code := impl.CollapseToPoint(c, number)
	checkFails(t, "CollapseToPoint of "+what, faces, code, impl.ErrInvalid)
	for _, other := range []impl.Complex{{}, complexOf([]int64{0}), c} {
		count, code := impl.CountMaps(c, other, number)
		checkFails(t, "CountMaps from "+what, count, code, impl.ErrInvalid)
		count, code = impl.CountMaps(other, c, number)
		checkFails(t, "CountMaps to "+what, count, code, impl.ErrInvalid)
	}
}

// TestMapsOfNoComplex also checks that this comes before all other errors.
func TestMapsOfNoComplex(t *testing.T) {
	t.Parallel()
	point, none := complexOf([]int64{0}), impl.Complex{}
	for _, what := range sortedNames(wrongComplexes()) {
		c := wrongComplexes()[what]
		for _, number := range []int64{0, 1, -1, impl.MaxBudget, impl.MaxBudget + 1} {
			checkNoCollapse(t, what, c, number)
		}
		for _, images := range [][]int64{nil, {0}, {0, 0}, {0, 1}, {0, 0, 0}, {-1}} {
			for _, k := range []int64{0, -1} {
				for _, p := range []int64{2, 4} {
					checkNoMap(t, aMap{c, c, images}, k, p, impl.ErrInvalid)
					checkNoMap(t, aMap{c, point, images}, k, p, impl.ErrInvalid)
					checkNoMap(t, aMap{point, c, images}, k, p, impl.ErrInvalid)
				}
			}
			// Each of the three complexes comes before both maps.
			for _, complexes := range [][3]impl.Complex{{c, none, none}, {none, c, none}, {none, none, c}, {c, point, point}, {point, c, point}, {point, point, c}} {
				both, code := impl.ComposeMaps(complexes[0], complexes[1], complexes[2], images, nil)
				checkFails(t, "ComposeMaps with "+what, both, code, impl.ErrInvalid)
				both, code = impl.ComposeMaps(complexes[0], complexes[1], complexes[2], nil, images)
				checkFails(t, "ComposeMaps with "+what, both, code, impl.ErrInvalid)
			}
		}
	}
}

// TestMapsModuloNoPrime also checks that this comes before lists that are no maps, and before wrong degrees.
func TestMapsModuloNoPrime(t *testing.T) {
	t.Parallel()
	for _, f := range []aMap{{}, identityOf(torus()), {torus(), torus(), []int64{-1}}, identityOf(edgesAndMore(9, 33)), {edgesAndMore(9, 33), torus(), nil}} {
		for _, p := range notPrimes() {
			for _, k := range append(wrongDegrees(), 0, 1, 2, 3) {
				checkMapFails(t, degreeMaps(), f, k, p, impl.ErrInvalid)
			}
		}
	}
}

// TestListsThatAreNoMaps also checks that this comes before wrong indices and degrees, and before too many simplices.
func TestListsThatAreNoMaps(t *testing.T) {
	t.Parallel()
	named := namedMaps()
	for _, what := range sortedNames(named) {
		f := named[what]
		for _, images := range f.wrongImages() {
			for _, k := range []int64{1, -1} {
				checkNoMap(t, aMap{f.a, f.b, images}, k, 5, impl.ErrOrder)
			}
		}
	}
	// The second map of two may be none as well.
	f := identityOf(torus())
	for _, images := range f.wrongImages() {
		both, code := impl.ComposeMaps(f.a, f.b, f.b, f.images, images)
		checkFails(t, "ComposeMaps with no second map", both, code, impl.ErrOrder)
		both, code = impl.ComposeMaps(impl.Complex{}, f.b, f.b, nil, images)
		checkFails(t, "ComposeMaps with no second map", both, code, impl.ErrOrder)
	}
}

// outsideIndices are numbers that are indices of none of so many simplices.
func outsideIndices(count int) []int64 {
	list := []int64{int64(count), int64(count) + 1, int64(count) + 100}
	for _, n := range append(someNumbers(), -int64(count)) {
		if n < 0 || n >= int64(count) {
			list = append(list, n)
		}
	}
	return list
}

func TestMapsWithoutTheSimplex(t *testing.T) {
	for what, f := range namedMaps() {
		for _, k := range outsideIndices(len(f.a.Simplices)) {
			image, code := impl.SimplexImage(f.a, f.b, f.images, k)
			checkNumber(t, fmt.Sprint("SimplexImage of ", k, ", ", what), image, code, 0, impl.ErrRange)
			left, code := impl.CollapsePair(f.a, k)
			checkNoComplex(t, fmt.Sprint("CollapsePair of ", k, ", ", what), left, code, impl.ErrRange)
		}
		for _, m := range outsideIndices(len(f.b.Simplices)) {
			fibre, code := impl.FibreOf(f.a, f.b, f.images, m)
			checkVector(t, fmt.Sprint("FibreOf ", m, ", ", what), fibre, code, nil, impl.ErrRange)
		}
	}
}

// TestMapsOfNoDegree also checks that this comes before too many simplices.
func TestMapsOfNoDegree(t *testing.T) {
	t.Parallel()
	maps := crowdedMaps()
	for _, f := range namedMaps() {
		maps = append(maps, f)
	}
	for _, f := range maps {
		for _, k := range wrongDegrees() {
			for _, p := range []int64{2, impl.MaxPrime} {
				checkMapFails(t, degreeMaps(), f, k, p, impl.ErrRange)
			}
		}
	}
}

func TestNumbersThatAreNoBudgets(t *testing.T) {
	t.Parallel()
	for what, c := range namedComplexes() {
		for _, budget := range wrongBudgets() {
			faces, code := impl.CollapseToPoint(c, budget)
			checkFails(t, fmt.Sprint("CollapseToPoint with the budget ", budget, " and ", what), faces, code, impl.ErrRange)
			for _, other := range []impl.Complex{{}, torus(), c} {
				count, code := impl.CountMaps(c, other, budget)
				checkFails(t, fmt.Sprint("CountMaps with the budget ", budget, " and ", what), count, code, impl.ErrRange)
			}
		}
	}
}
