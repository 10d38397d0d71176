package tests

import (
	"fmt"
	"math"
	"slices"
	"testing"

	"loop.example/g01005/impl"
)

// useMap calls all functions of chapter 8 that have a map, and CountMaps.
func useMap(f aMap, k, p int64, add func(results ...any)) {
	for _, calls := range []map[string]mapCall{indexMaps(), plainMaps(), degreeMaps()} {
		for _, name := range sortedNames(calls) {
			result, code := calls[name](f, k, p)
			add(result, code)
		}
	}
	add(impl.IsMap(f.a, f.b, f.images))
	count, code := impl.CountMaps(f.a, f.b, k)
	add(count, code)
}

// useCollapses calls all others.
func useCollapses(c impl.Complex, number int64, add func(results ...any)) {
	pairs, code := impl.FreePairs(c)
	add(pairs, code)
	left, code := impl.CollapsePair(c, number)
	add(left, code)
	left, removed, code := impl.GreedyCollapse(c)
	add(left, removed, code)
	faces, code := impl.CollapseToPoint(c, number)
	add(faces, code)
}

// mapResults calls all functions of chapter 8 with all kinds of arguments; it ends only if all of them return.
func mapResults() []any {
	var all []any
	add := func(results ...any) { all = append(all, results...) }
	numbers := []int64{0, 1, 3, -1, 5, 48, 500, impl.MaxBudget, math.MinInt64, math.MaxInt64}
	complexes := purityComplexes()
	for _, a := range complexes {
		for _, k := range numbers {
			useCollapses(a, k, add)
		}
		for _, b := range complexes {
			for _, images := range [][]int64{verticesOf(a), filled(len(simplicesOf(a, 0)), 0), nil, filled(3, math.MinInt64)} {
				useMap(aMap{a, b, images}, 1, 5, add)
			}
		}
	}
	for _, images := range append(oddVectors(), extremeNumbers(), upTo(7), []int64{6, 5, 4, 3, 2, 1, 0}) {
		for _, k := range numbers {
			for _, p := range []int64{2, impl.MaxPrime, 0, math.MinInt64, math.MaxInt64} {
				useMap(aMap{torus(), torus(), images}, k, p, add)
			}
		}
	}
	return all
}

func TestMapsReturnEqualResults(t *testing.T) {
	t.Parallel()
	checkEqualResults(t, mapResults)
}

func TestMapsAreLeft(t *testing.T) {
	t.Parallel()
	complexes := purityComplexes()
	for i, given := range complexes {
		a, wholeA := spareLists(given.Simplices)
		beforeA := copiedLists(wholeA)
		for _, k := range []int64{0, 1, 2, 6, 100} {
			useCollapses(complexOf(a...), k, func(...any) {})
		}
		for _, other := range complexes {
			b, wholeB := spareLists(other.Simplices)
			beforeB := copiedLists(wholeB)
			for _, numbers := range [][]int64{verticesOf(given), filled(len(simplicesOf(given, 0)), 0), {1, 0}, {-1}} {
				images, wholeImages := withSpare(numbers)
				useMap(aMap{complexOf(a...), complexOf(b...), images}, 1, 7, func(...any) {})
				checkEqual(t, "the images", slices.Equal(wholeImages, append(slices.Clone(numbers), 77, 78, 79)), true)
			}
			checkLeft(t, fmt.Sprint("the second complex for ", i), b, wholeB, beforeB)
		}
		checkLeft(t, fmt.Sprint("the complex ", i), a, wholeA, beforeA)
	}
}

// mapMemory calls all functions of chapter 8 that return memory, and returns each list of numbers, and each one of lists, by a name.
func mapMemory(f aMap, face int64) (vectors map[string][]int64, lists map[string][][]int64) {
	vectors, lists = map[string][]int64{}, map[string][][]int64{}
	keep := func(what string, result any) { keepMemory(vectors, lists, what, result) }
	for _, calls := range []map[string]mapCall{indexMaps(), plainMaps(), degreeMaps()} {
		for what, call := range calls {
			result, _ := call(f, 1, 7)
			keep(what, result)
		}
	}
	pairs, _ := impl.FreePairs(f.a)
	keep("FreePairs", pairs)
	left, _ := impl.CollapsePair(f.a, face)
	keep("CollapsePair", left)
	left, _, _ = impl.GreedyCollapse(f.a)
	keep("GreedyCollapse", left)
	faces, _ := impl.CollapseToPoint(f.a, impl.MaxBudget)
	keep("CollapseToPoint", faces)
	return vectors, lists
}

// TestMapsReturnNewMemory takes identities, where a function might return its arguments themselves, and complexes without a free pair.
func TestMapsReturnNewMemory(t *testing.T) {
	t.Parallel()
	for _, facets := range [][][]int64{{{3}}, {{0, 1, 2}, {2, 3}}, {{0, 1}, {0, 2}, {1, 2}}, {{0, 1, 2, 3}}} {
		simplices, whole := spareLists(closureOf(facets))
		before := copiedLists(whole)
		images, wholeImages := withSpare(verticesOf(complexOf(simplices...)))
		beforeImages := slices.Clone(wholeImages)
		face := int64(-1)
		if pairs := freePairsOf(simplices); len(pairs) > 0 {
			face = pairs[0][0]
		}
		call := func() (map[string][]int64, map[string][][]int64) {
			return mapMemory(aMap{complexOf(simplices...), complexOf(simplices...), images}, face)
		}
		vectors, lists := call()
		checkEqual(t, "the number of lists of lists", len(lists), 5)
		checkEqual(t, "whether there are lists", len(vectors) > 5, true)
		checkNewMemory(t, call, func(when string) {
			t.Helper()
			checkLeft(t, "the simplices"+when, simplices, whole, before)
			checkEqual(t, "the images"+when, slices.Equal(wholeImages, beforeImages), true)
		})
	}
}
