package tests

import (
	"fmt"
	"math/rand"
	"slices"
	"testing"

	"loop.example/g01005/impl"
)

func TestLimitsOfPosets(t *testing.T) {
	checkEqual(t, "the limits", []int64{impl.MaxElements, impl.MaxCovers}, []int64{12, 30})
	full := 0
	for what, p := range namedPosets() {
		checkEqual(t, "whether it is a poset: "+what, isPoset(p), true)
		checkEqual(t, "ValidPoset of "+what, impl.ValidPoset(p), true)
		if len(p.Covers) == impl.MaxCovers {
			full++
		}
	}
	checkEqual(t, "the number of posets with as many pairs as possible", full, 4)
}

// TestAllSmallPosets also checks the numbers of posets against the known ones.
func TestAllSmallPosets(t *testing.T) {
	t.Parallel()
	for size, want := range []int{1, 1, 3, 19, 219, 4231} {
		posets := smallPosets(int64(size))
		checkEqual(t, fmt.Sprint("the number of posets of the size ", size), len(posets), want)
		for _, p := range posets {
			checkEqual(t, fmt.Sprint("ValidPoset of ", p), impl.ValidPoset(p), true)
		}
	}
}

// TestValidPosetOfAllSets goes through all sets of pairs of different elements.
func TestValidPosetOfAllSets(t *testing.T) {
	t.Parallel()
	for size, want := range []int{1, 1, 3, 19, 219} {
		pairs := slices.DeleteFunc(allPairs(int64(size)), func(pair []int64) bool { return pair[0] == pair[1] })
		count := 0
		for number := range 1 << len(pairs) {
			p := posetOf(int64(size))
			for i, pair := range pairs {
				if number>>i&1 == 1 {
					p.Covers = append(p.Covers, pair)
				}
			}
			checkEqual(t, fmt.Sprint("ValidPoset of ", p), impl.ValidPoset(p), isPoset(p))
			if isPoset(p) {
				count++
			}
		}
		checkEqual(t, fmt.Sprint("the number of posets of the size ", size), count, want)
	}
}

// allPairs returns all pairs of elements, in order, also those of an element with itself.
func allPairs(size int64) [][]int64 {
	var pairs [][]int64
	for a := range size {
		for b := range size {
			pairs = append(pairs, []int64{a, b})
		}
	}
	return pairs
}

func TestValidPosetOfAllShortLists(t *testing.T) {
	t.Parallel()
	elements := append(allPairs(3), []int64{}, []int64{0}, []int64{0, 1, 2}, []int64{0, 3}, []int64{-1, 0})
	count := 0
	for _, list := range listsOf(elements, 4) {
		p := posetOf(3, list...)
		checkEqual(t, fmt.Sprint("ValidPoset of ", p), impl.ValidPoset(p), isPoset(p))
		if isPoset(p) {
			count++
		}
	}
	checkEqual(t, "the number of posets", count, 19)
}

// TestPosetsThatAreNotValid also checks that this comes before all other errors.
func TestPosetsThatAreNotValid(t *testing.T) {
	t.Parallel()
	for what, p := range wrongPosets() {
		checkEqual(t, "whether it is no poset: "+what, isPoset(p), false)
		checkEqual(t, "ValidPoset with "+what, impl.ValidPoset(p), false)
		checkEqual(t, "PosetText with "+what, impl.PosetText(p), "")
		dual, code := impl.DualPoset(p)
		checkNoPoset(t, "DualPoset with "+what, dual, code, impl.ErrInvalid)
		for name, call := range posetLists() {
			list, code := call(p)
			checkVector(t, name+" with "+what, list, code, nil, impl.ErrInvalid)
		}
		for name, call := range posetNumbers() {
			n, code := call(p)
			checkNumber(t, name+" with "+what, n, code, 0, impl.ErrInvalid)
		}
		for _, a := range append(outsideElements(), 0, 1, 2, 11) {
			for _, list := range [][]int64{nil, {a}, {0, a}, {a, 1, 1}} {
				ideal, code := impl.IdealOf(p, list)
				checkVector(t, fmt.Sprint("IdealOf ", list, " with ", what), ideal, code, nil, impl.ErrInvalid)
			}
			for _, b := range []int64{0, 1, a} {
				checkEqual(t, fmt.Sprint("IsBelow of ", a, " and ", b, " with ", what), impl.IsBelow(p, a, b) || impl.IsBelow(p, b, a), false)
				n, code := impl.MoebiusOf(p, a, b)
				checkNumber(t, fmt.Sprint("MoebiusOf ", a, " and ", b, " with ", what), n, code, 0, impl.ErrInvalid)
				n, code = impl.MoebiusOf(p, b, a)
				checkNumber(t, fmt.Sprint("MoebiusOf ", b, " and ", a, " with ", what), n, code, 0, impl.ErrInvalid)
			}
		}
	}
}

// posetLists are the functions of a poset alone whose results are lists, and posetNumbers those with numbers.
func posetLists() map[string]func(p impl.Poset) ([]int64, int64) {
	return map[string]func(p impl.Poset) ([]int64, int64){"MinimalOf": impl.MinimalOf, "WidthOf": impl.WidthOf, "FirstExtension": impl.FirstExtension}
}

func posetNumbers() map[string]func(p impl.Poset) (int64, int64) {
	return map[string]func(p impl.Poset) (int64, int64){"HeightOf": impl.HeightOf, "CountIdeals": impl.CountIdeals, "CountExtensions": impl.CountExtensions}
}

func TestSamePoset(t *testing.T) {
	original := func() impl.Poset { return posetOf(4, []int64{0, 1}, []int64{0, 2}, []int64{3, 1}) }
	checkEqual(t, "a copy", impl.SamePoset(original(), original()), true)
	others := []impl.Poset{
		{}, posetOf(4), posetOf(3, original().Covers...), posetOf(5, original().Covers...), posetOf(4, []int64{0, 1}, []int64{0, 2}), posetOf(4, []int64{0, 2}, []int64{0, 1}, []int64{3, 1}),
		posetOf(4, []int64{0, 1}, []int64{0, 2}, []int64{3, 1}, nil), posetOf(4, nil, []int64{0, 1}, []int64{0, 2}, []int64{3, 1}), posetOf(4, []int64{0, 1}, []int64{0, 2}, []int64{1, 3}), posetOf(4, []int64{0, 1}, []int64{0, 2}, []int64{3, 1}, []int64{3, 1}),
		posetOf(4, []int64{0, 1}, []int64{0, 2}, []int64{3}), posetOf(4, []int64{0, 1}, []int64{0, 2}, []int64{3, 1, 1}), posetOf(4, []int64{0, 1, 0, 2, 3, 1}), posetOf(4, []int64{0, 1, 0}, []int64{2, 3, 1}), posetOf(4, nil, nil, nil), posetOf(4, nil),
		posetOf(-4, original().Covers...), posetOf(4+1<<32, original().Covers...),
	}
	for i := range original().Covers {
		for place := range 2 {
			other := original()
			other.Covers[i][place] += 1 << 32
			others = append(others, other)
		}
	}
	for i, other := range others {
		checkEqual(t, "another poset", impl.SamePoset(original(), other), false)
		checkEqual(t, "another poset in front", impl.SamePoset(other, original()), false)
		for k, next := range others {
			checkEqual(t, fmt.Sprint(other, " and ", next), impl.SamePoset(other, next), i == k)
		}
	}
	for what, wrong := range wrongPosets() {
		checkEqual(t, "the same poset with "+what, impl.SamePoset(wrong, posetOf(wrong.Size, copiedLists(wrong.Covers)...)), true)
	}
	empty := impl.Poset{Covers: [][]int64{}}
	checkEqual(t, "nil and empty", impl.SamePoset(impl.Poset{}, empty) && impl.SamePoset(empty, impl.Poset{}), true)
	checkEqual(t, "nil and empty as pairs", impl.SamePoset(posetOf(0, nil), posetOf(0, []int64{})) && impl.SamePoset(posetOf(0, []int64{}), posetOf(0, nil)), true)
}

// checkMade checks PosetOf against the definition.
func checkMade(t *testing.T, size int64, pairs [][]int64) int64 {
	t.Helper()
	want, wantCode := madeOf(size, pairs)
	got, code := impl.PosetOf(size, pairs)
	checkPoset(t, fmt.Sprint("PosetOf ", size, " and ", pairs), got, code, want, wantCode)
	return code
}

func TestPosetOfAllShortLists(t *testing.T) {
	t.Parallel()
	for size, most := range []int{3, 4, 6, 4, 3} {
		for _, pairs := range listsOf(allPairs(int64(size)), most) {
			checkMade(t, int64(size), pairs)
		}
	}
}

// TestPosetOfRandomPairs gives pairs in any order, twice, of elements with themselves, and some that follow from others or lead in a circle.
func TestPosetOfRandomPairs(t *testing.T) {
	t.Parallel()
	r := rand.New(rand.NewSource(31))
	codes := map[int64]int{}
	for range 5000 {
		size := 1 + r.Int63n(impl.MaxElements)
		pairs := randomPairs(r, size)
		for range r.Intn(4) {
			a := r.Int63n(size)
			pairs = append(pairs, []int64{a, a})
		}
		for range r.Intn(2) * len(pairs) {
			pairs = append(pairs, pairs[r.Intn(len(pairs))])
		}
		for range r.Intn(4) / 2 {
			pairs = append(pairs, []int64{r.Int63n(size), r.Int63n(size)})
		}
		codes[checkMade(t, size, pairs)]++
	}
	checkEqual(t, "whether all codes have come often", codes[impl.OK] > 500 && codes[impl.ErrState] > 300 && codes[impl.ErrFull] > 20, true)
}

// TestPosetOfItsOwnPairs makes posets again of their pairs in any order, and of all that is below something.
func TestPosetOfItsOwnPairs(t *testing.T) {
	t.Parallel()
	r := rand.New(rand.NewSource(32))
	for _, p := range somePosets(33, 5, 300) {
		pairs := copiedLists(p.Covers)
		r.Shuffle(len(pairs), func(i, k int) { pairs[i], pairs[k] = pairs[k], pairs[i] })
		for _, list := range [][][]int64{p.Covers, pairs, slices.Concat(pairs, p.Covers), relationOf(p.Size, p.Covers).pairs()} {
			got, code := impl.PosetOf(p.Size, list)
			checkPoset(t, fmt.Sprint("PosetOf ", p.Size, " and ", list), got, code, p, impl.OK)
		}
	}
}

// TestPosetOfWrongArguments also checks that these come before circles and before too many pairs.
func TestPosetOfWrongArguments(t *testing.T) {
	t.Parallel()
	circle, many := [][]int64{{0, 1}, {1, 0}}, layersOf(6, 6).Covers
	for _, size := range wrongSizes() {
		for _, pairs := range [][][]int64{nil, {}, {nil}, {{0, 1}}, {{0, 0}}, {{size - 1, size - 2}}, {{-1, size}}, circle, many} {
			got, code := impl.PosetOf(size, pairs)
			checkNoPoset(t, fmt.Sprint("PosetOf ", size, " and ", pairs), got, code, impl.ErrRange)
		}
	}
	for _, size := range []int64{2, 3, 11, 12} {
		for _, wrong := range wrongPairs(size) {
			for _, others := range [][][]int64{nil, {{0, 1}}, circle, many} {
				for _, place := range []int{0, len(others) / 2, len(others)} {
					got, code := impl.PosetOf(size, slices.Insert(slices.Clone(others), place, wrong))
					checkNoPoset(t, fmt.Sprintf("PosetOf %d and %.60s", size, fmt.Sprint(wrong)), got, code, impl.ErrRange)
				}
			}
		}
	}
	for _, pair := range [][]int64{nil, {0, 0}, {0, 1}, {-1, -1}} {
		got, code := impl.PosetOf(0, [][]int64{pair})
		checkNoPoset(t, fmt.Sprint("PosetOf 0 and ", pair), got, code, impl.ErrRange)
	}
	got, code := impl.PosetOf(1, [][]int64{{0, 0}, {0, 1}})
	checkNoPoset(t, "PosetOf 1 and a second element", got, code, impl.ErrRange)
}

func TestPosetOfManyPairs(t *testing.T) {
	check := func(what string, size int64, pairs, want [][]int64, wantCode int64) {
		t.Helper()
		wanted := posetOf(size, want...)
		if wantCode != impl.OK {
			wanted = impl.Poset{}
		}
		got, code := impl.PosetOf(size, pairs)
		checkPoset(t, "PosetOf "+what, got, code, wanted, wantCode)
	}
	full := layersOf(5, 6).Covers
	check("nothing", 0, nil, nil, impl.OK)
	check("an empty list", 0, [][]int64{}, nil, impl.OK)
	check("an element", 1, nil, nil, impl.OK)
	check("elements alone", 12, nil, nil, impl.OK)
	check("an element with itself", 1, [][]int64{{0, 0}}, nil, impl.OK)
	check("100000 times an element with itself", 12, slices.Repeat([][]int64{{7, 7}}, 100000), nil, impl.OK)
	check("100000 times a pair", 12, slices.Repeat([][]int64{{9, 2}}, 100000), [][]int64{{9, 2}}, impl.OK)
	check("100000 times two pairs", 12, slices.Repeat([][]int64{{9, 2}, {2, 4}, {9, 4}}, 50000), [][]int64{{2, 4}, {9, 2}}, impl.OK)
	check("100000 times a circle", 12, slices.Repeat([][]int64{{9, 2}, {2, 9}}, 50000), nil, impl.ErrState)
	check("30 pairs", 11, full, full, impl.OK)
	check("30 pairs twice", 12, slices.Concat(full, full), full, impl.OK)
	check("31 pairs", 12, append(slices.Clone(full), []int64{0, 11}), nil, impl.ErrFull)
	check("31 pairs, the first one the last", 12, append(slices.Clone(full), []int64{11, 10}), nil, impl.ErrFull)
	check("31 pairs, one of which follows", 12, append(slices.Clone(full), []int64{10, 11}, []int64{0, 11}), nil, impl.ErrFull)
	check("35 pairs", 12, layersOf(5, 7).Covers, nil, impl.ErrFull)
	check("36 pairs", 12, layersOf(6, 6).Covers, nil, impl.ErrFull)
	check("31 pairs and a circle", 12, append(slices.Clone(full), []int64{0, 11}, []int64{11, 0}), nil, impl.ErrState)
	check("36 pairs and a circle", 12, append(layersOf(6, 6).Covers, []int64{11, 0}), nil, impl.ErrState)
	check("66 pairs of a chain", 12, relationOf(12, chainOf(12, upTo(12)...).Covers).pairs(), chainOf(12, upTo(12)...).Covers, impl.OK)
	check("all pairs", 12, allPairs(12), nil, impl.ErrState)
	layers := layersOf(1, 3, 4, 3, 1)
	check("all pairs of layers", 12, relationOf(12, layers.Covers).pairs(), layers.Covers, impl.OK)
	check("36 pairs around an element", 12, append(relationOf(12, layersOf(5, 1, 6).Covers).pairs(), []int64{0, 6}), layersOf(5, 1, 6).Covers, impl.OK)
}

// TestPosetOfCircles closes chains of all lengths by a pair back, in any order.
func TestPosetOfCircles(t *testing.T) {
	t.Parallel()
	r := rand.New(rand.NewSource(34))
	for range 2000 {
		size := 2 + r.Int63n(impl.MaxElements-1)
		places := r.Perm(int(size))[:2+r.Intn(int(size)-1)]
		var pairs [][]int64
		for i := range places {
			pairs = append(pairs, []int64{int64(places[i]), int64(places[(i+1)%len(places)])})
		}
		pairs = append(pairs, []int64{int64(places[0]), int64(places[0])}, []int64{r.Int63n(size), r.Int63n(size)})
		r.Shuffle(len(pairs), func(i, k int) { pairs[i], pairs[k] = pairs[k], pairs[i] })
		got, code := impl.PosetOf(size, pairs)
		checkNoPoset(t, fmt.Sprint("PosetOf ", size, " and ", pairs), got, code, impl.ErrState)
	}
}

func TestDualPoset(t *testing.T) {
	t.Parallel()
	for _, p := range somePosets(35, 5, 300) {
		turned := emptyRelation(p.Size)
		for _, pair := range relationOf(p.Size, p.Covers).pairs() {
			turned[pair[1]][pair[0]] = true
		}
		dual, code := impl.DualPoset(p)
		checkPoset(t, fmt.Sprint("DualPoset of ", p), dual, code, posetOf(p.Size, turned.covers()...), impl.OK)
		checkEqual(t, "whether the dual poset is valid", impl.ValidPoset(dual), true)
		back, code := impl.DualPoset(dual)
		checkPoset(t, fmt.Sprint("DualPoset twice of ", p), back, code, p, impl.OK)
	}
}
