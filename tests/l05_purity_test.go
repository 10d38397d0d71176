package tests

import (
	"fmt"
	"math"
	"slices"
	"testing"

	"loop.example/g01005/impl"
)

// oddComplexes returns complexes that are valid or not.
func oddComplexes() []impl.Complex {
	var list []impl.Complex
	for _, named := range []map[string]impl.Complex{namedComplexes(), wrongComplexes()} {
		for _, what := range sortedNames(named) {
			list = append(list, named[what])
		}
	}
	return list
}

// useComplex calls all functions of chapter 5 that have a complex or a list of simplices.
func useComplex(c, other impl.Complex, s []int64, add func(results ...any)) {
	pair := func(first any, code int64) { add(first, code) }
	add(impl.ValidComplex(c), impl.SameComplex(c, other), impl.SameComplex(other, c), impl.ComplexText(c), impl.ValidSimplex(s))
	pair(impl.ClosureOf(c.Simplices))
	pair(impl.FacetsOf(c))
	pair(impl.IndexOf(c, s))
	pair(impl.EulerNumber(c))
	pair(impl.PartsOf(c))
	for _, n := range []int64{0, 1, 2, 3, 6, 20, 47, -1, impl.MaxSimplices, math.MinInt64, math.MaxInt64} {
		for _, name := range sortedNames(indexLists()) {
			pair(indexLists()[name](c, n))
		}
		for _, name := range sortedNames(numberComplexes()) {
			pair(numberComplexes()[name](c, n))
		}
	}
}

// complexResults calls all functions of chapter 5 with all kinds of arguments; it ends only if all of them return.
func complexResults() []any {
	var all []any
	add := func(results ...any) { all = append(all, results...) }
	odd := oddComplexes()
	for _, c := range odd {
		for _, other := range odd[:30] {
			add(impl.SameComplex(c, other), impl.SameComplex(other, c))
		}
		useComplex(c, c, slices.Concat(c.Simplices...), add)
	}
	for _, s := range append(wrongSimplices(), allSimplices(5)...) {
		useComplex(torus(), complexOf(s), s, add)
	}
	for _, vectors := range [][][]int64{nil, {nil}, oddVectors(), allSimplices(10), allSimplices(4)} {
		c, code := impl.ClosureOf(vectors)
		add(c, code)
	}
	for _, s := range append(oddTexts(), "0,1/0,2/1,2", "0,1/0,2/1,2/", "0,1,2,3/4,5,6,7", "3/0,1,2") {
		c, ok := impl.ReadComplex(s)
		add(c, ok)
	}
	return all
}

// TestComplexesReturnEqualResults makes many calls with equal arguments, as the order of a map changes from call to call.
func TestComplexesReturnEqualResults(t *testing.T) {
	t.Parallel()
	for range 2 {
		checkEqualResults(t, complexResults)
	}
}

func TestComplexesAreLeft(t *testing.T) {
	t.Parallel()
	for i, given := range oddComplexes() {
		if len(given.Simplices) > 1000 {
			continue
		}
		c, whole := spareLists(given.Simplices)
		s, wholeS := withSpare([]int64{1, 4})
		before := copiedLists(whole)
		useComplex(complexOf(c...), complexOf(c...), s, func(...any) {})
		useComplex(complexOf(c...), impl.Complex{}, slices.Concat(c...), func(...any) {})
		checkLeft(t, fmt.Sprint("the complex ", i), c, whole, before)
		checkEqual(t, "the simplex", wholeS, []int64{1, 4, 77, 78, 79})
	}
}

// complexLists calls all functions of chapter 5 that return memory, and returns each list of numbers, and each one of simplices, by a name.
func complexLists(c impl.Complex) (vectors map[string][]int64, lists map[string][][]int64) {
	vectors, lists = map[string][]int64{}, map[string][][]int64{}
	keep := func(what string, c impl.Complex) { keepMemory(vectors, lists, what, c) }
	closure, _ := impl.ClosureOf(c.Simplices)
	keep("ClosureOf", closure)
	for what, call := range numberComplexes() {
		for _, n := range []int64{0, 2, 9} {
			got, _ := call(c, n)
			keep(fmt.Sprint(what, " with ", n), got)
		}
	}
	for what, call := range indexLists() {
		for _, n := range []int64{0, 2, 9} {
			vectors[fmt.Sprint(what, " with ", n)], _ = call(c, n)
		}
	}
	vectors["FacetsOf"], _ = impl.FacetsOf(c)
	vectors["PartsOf"], _ = impl.PartsOf(c)
	read, _ := impl.ReadComplex("0,3/0,1,2")
	keep("ReadComplex", read)
	return vectors, lists
}

// TestComplexesReturnNewMemory takes a complex that is its own closure and skeleton, where a function might return it itself.
func TestComplexesReturnNewMemory(t *testing.T) {
	t.Parallel()
	simplices, whole := spareLists(closureOf([][]int64{{0, 1, 2}, {0, 3}, {5}}))
	before := copiedLists(whole)
	call := func() (map[string][]int64, map[string][][]int64) { return complexLists(complexOf(simplices...)) }
	_, lists := call()
	checkEqual(t, "the number of complexes", len(lists), 11)
	checkNewMemory(t, call, func(when string) {
		t.Helper()
		checkLeft(t, "the simplices"+when, simplices, whole, before)
	})
}
