package tests

import (
	"fmt"
	"math/rand"
	"slices"
	"testing"

	"loop.example/g01005/impl"
)

// allSets returns all strictly increasing lists of elements, in lexicographic order.
func allSets(size int64) [][]int64 {
	sets := [][]int64{{}}
	for a := size - 1; a >= 0; a-- {
		// Behind the empty list, those that begin with a come before the ones that begin later.
		var first [][]int64
		for _, set := range sets {
			first = append(first, slices.Concat([]int64{a}, set))
		}
		sets = slices.Concat(sets[:1], first, sets[1:])
	}
	return sets
}

func TestAllSetsAreInOrder(t *testing.T) {
	for size := range int64(impl.MaxElements + 1) {
		sets := allSets(size)
		checkEqual(t, "the number of sets", len(sets), 1<<size)
		checkEqual(t, "whether they are in order", slices.IsSortedFunc(sets, func(a, b []int64) int { return slices.Compare(a, b) }), true)
	}
}

// firstLongest returns the first list of the greatest length of which each two elements are related as told.
func firstLongest(sets [][]int64, fits func(a, b int64) bool) []int64 {
	var longest []int64
	for _, set := range sets {
		if len(set) > len(longest) && fitTogether(set, fits) {
			longest = set
		}
	}
	return longest
}

func fitTogether(set []int64, fits func(a, b int64) bool) bool {
	for i := range set {
		for k := range i {
			if !fits(set[k], set[i]) {
				return false
			}
		}
	}
	return true
}

// isIdeal reports whether a set has all that is below its elements.
func (r relation) isIdeal(set []int64) bool {
	for _, a := range set {
		for b := range int64(len(r)) {
			if r[b][a] && !slices.Contains(set, b) {
				return false
			}
		}
	}
	return true
}

// idealOf returns all elements below one of a list.
func (r relation) idealOf(list []int64) []int64 {
	var ideal []int64
	for a := range int64(len(r)) {
		if slices.ContainsFunc(list, func(b int64) bool { return r[a][b] }) {
			ideal = append(ideal, a)
		}
	}
	return ideal
}

// checkOrder checks the functions of the order and of ideals against the definitions, with all sets of elements.
func checkOrder(t *testing.T, p impl.Poset, sets [][]int64) {
	t.Helper()
	r := relationOf(p.Size, p.Covers)
	isRelated := func(a, b int64) bool { return r[a][b] || r[b][a] }
	isApart := func(a, b int64) bool { return !isRelated(a, b) }
	height, code := impl.HeightOf(p)
	checkNumber(t, fmt.Sprint("HeightOf ", p), height, code, int64(len(firstLongest(sets, isRelated))), impl.OK)
	width, code := impl.WidthOf(p)
	checkVector(t, fmt.Sprint("WidthOf ", p), width, code, firstLongest(sets, isApart), impl.OK)
	count := int64(0)
	for _, set := range sets {
		if r.isIdeal(set) {
			count++
		}
	}
	ideals, code := impl.CountIdeals(p)
	checkNumber(t, fmt.Sprint("CountIdeals of ", p), ideals, code, count, impl.OK)
	var minimal []int64
	for a := range p.Size {
		if slices.Equal(r.idealOf([]int64{a}), []int64{a}) {
			minimal = append(minimal, a)
		}
		for b := range p.Size {
			checkEqual(t, fmt.Sprint("IsBelow of ", a, " and ", b, " in ", p), impl.IsBelow(p, a, b), r[a][b])
		}
	}
	got, code := impl.MinimalOf(p)
	checkVector(t, fmt.Sprint("MinimalOf ", p), got, code, minimal, impl.OK)
}

func TestOrderOfSmallPosets(t *testing.T) {
	t.Parallel()
	for size := range int64(6) {
		sets := allSets(size)
		for _, p := range smallPosets(size) {
			checkOrder(t, p, sets)
		}
	}
}

func TestOrderOfLargePosets(t *testing.T) {
	t.Parallel()
	for _, p := range somePosets(41, 0, 200) {
		checkOrder(t, p, allSets(p.Size))
	}
}

// TestIdealOfAllSets also gives lists in another order and with repeated elements.
func TestIdealOfAllSets(t *testing.T) {
	t.Parallel()
	random := rand.New(rand.NewSource(42))
	for _, p := range somePosets(43, 4, 30) {
		r := relationOf(p.Size, p.Covers)
		for _, set := range allSets(p.Size) {
			list := slices.Concat(set, set[:len(set)/2])
			random.Shuffle(len(list), func(i, k int) { list[i], list[k] = list[k], list[i] })
			for _, given := range [][]int64{set, list} {
				ideal, code := impl.IdealOf(p, given)
				checkVector(t, fmt.Sprint("IdealOf ", given, " in ", p), ideal, code, r.idealOf(set), impl.OK)
			}
		}
	}
	ideal, code := impl.IdealOf(chainOf(12, upTo(12)...), slices.Repeat([]int64{3, 1}, 50000))
	checkVector(t, "IdealOf a long list", ideal, code, []int64{0, 1, 2, 3}, impl.OK)
	ideal, code = impl.IdealOf(posetOf(12), nil)
	checkVector(t, "IdealOf nil", ideal, code, nil, impl.OK)
}

// TestElementsOutside gives numbers that are no elements of posets of all sizes.
func TestElementsOutside(t *testing.T) {
	t.Parallel()
	for size := range int64(impl.MaxElements + 1) {
		for _, p := range []impl.Poset{posetOf(size), chainOf(size, upTo(size)...)} {
			for _, n := range append(outsideElements(), size, size+1, -size-1) {
				for _, list := range [][]int64{{n}, {n, n}, slices.Insert(upTo(size), 0, n), append(upTo(size), n), slices.Insert(upTo(size), int(size)/2, n)} {
					ideal, code := impl.IdealOf(p, list)
					checkVector(t, fmt.Sprint("IdealOf ", list, " in ", p), ideal, code, nil, impl.ErrRange)
				}
				for _, m := range append(upTo(size), n, -1, 12) {
					for _, pair := range [][]int64{{n, m}, {m, n}} {
						checkEqual(t, fmt.Sprint("IsBelow of ", pair, " in ", p), impl.IsBelow(p, pair[0], pair[1]), false)
						number, code := impl.MoebiusOf(p, pair[0], pair[1])
						checkNumber(t, fmt.Sprint("MoebiusOf ", pair, " in ", p), number, code, 0, impl.ErrRange)
					}
				}
			}
		}
	}
}

// knownNumbers are those of posets for which formulas are known.
type knownNumbers struct {
	height, width, ideals, extensions int64
}

// TestKnownNumbers checks, among others, factorials, binomial coefficients, Catalan, Fibonacci and zigzag numbers, and tableaux.
func TestKnownNumbers(t *testing.T) {
	known := map[string]knownNumbers{
		"no elements":         {0, 0, 1, 1},
		"an element":          {1, 1, 2, 1},
		"two elements":        {1, 2, 4, 2},
		"a pair":              {2, 1, 3, 1},
		"not comparable":      {1, 12, 4096, 479001600},
		"a pair of the last":  {2, 11, 3072, 239500800},
		"a chain":             {12, 1, 13, 1},
		"a chain downwards":   {12, 1, 13, 1},
		"a chain in disorder": {12, 1, 13, 1},
		"two chains":          {6, 2, 49, 924},
		"a fence":             {2, 6, 377, 2702765},
		"parts of a set":      {4, 3, 20, 48},
		"a grid":              {6, 3, 35, 462},
		"a ladder":            {7, 2, 28, 132},
		"ten between":         {3, 10, 1026, 3628800},
		"as many covers":      {2, 6, 95, 86400},
		"as many, in layers":  {5, 4, 32, 864},
		// The extensions are 12! divided by the numbers of elements above each one, itself included: 12, 7, 4, 3, 3, 2, and 1.
		// The ideals with a root are the products of those of its branches: 1 + (1 + 5 * 5) * (1 + 3 * 2), where 5 is 1 + 2 * 2.
		"a tree":           {4, 6, 183, 79200},
		"a tree downwards": {4, 6, 183, 79200},
	}
	for what, want := range known {
		p := namedPosets()[what]
		height, code := impl.HeightOf(p)
		checkNumber(t, "HeightOf "+what, height, code, want.height, impl.OK)
		width, _ := impl.WidthOf(p)
		checkEqual(t, "the length of WidthOf "+what, int64(len(width)), want.width)
		ideals, code := impl.CountIdeals(p)
		checkNumber(t, "CountIdeals of "+what, ideals, code, want.ideals, impl.OK)
		extensions, code := impl.CountExtensions(p)
		checkNumber(t, "CountExtensions of "+what, extensions, code, want.extensions, impl.OK)
	}
}

// TestFirstWidth has posets with several lists of the greatest length, of which those of later elements come first somewhere.
func TestFirstWidth(t *testing.T) {
	check := func(p impl.Poset, want ...int64) {
		t.Helper()
		width, code := impl.WidthOf(p)
		checkVector(t, fmt.Sprint("WidthOf ", p), width, code, want, impl.OK)
	}
	check(impl.Poset{})
	check(posetOf(1), 0)
	check(chainOf(3, 2, 1, 0), 0)
	check(chainOf(3, 1, 0, 2), 0)
	check(posetOf(4, []int64{0, 1}, []int64{2, 3}), 0, 2)
	check(posetOf(4, []int64{1, 0}, []int64{3, 2}), 0, 2)
	check(layersOf(2, 2), 0, 1)
	check(layersOf(1, 2, 2), 1, 2)
	check(layersOf(2, 4, 4, 1), 2, 3, 4, 5)
	check(posetOf(4, []int64{0, 2}, []int64{0, 3}, []int64{1, 2}, []int64{1, 3}), 0, 1)
	check(posetOf(4, []int64{0, 3}, []int64{1, 2}), 0, 1)
	check(posetOf(4, []int64{0, 1}, []int64{1, 2}, []int64{1, 3}), 2, 3)
	check(posetOf(5, []int64{0, 1}, []int64{0, 4}, []int64{2, 3}), 1, 2, 4)
	check(namedPosets()["two chains"], 0, 1)
	check(namedPosets()["parts of a set"], 1, 2, 4)
	check(namedPosets()["a fence"], 0, 2, 4, 6, 8, 10)
	check(posetOf(12), upTo(12)...)
}
