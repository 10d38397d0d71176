package tests

import (
	"fmt"
	"math"
	"slices"
	"testing"

	"loop.example/g01005/impl"
)

// oddPosets returns posets that are valid or not.
func oddPosets() []impl.Poset {
	var list []impl.Poset
	for _, named := range []map[string]impl.Poset{namedPosets(), wrongPosets()} {
		for _, what := range sortedNames(named) {
			list = append(list, named[what])
		}
	}
	return list
}

// usePoset calls all functions of chapter 6 that have a poset, pairs or a list of elements.
func usePoset(p, other impl.Poset, list []int64, add func(results ...any)) {
	pair := func(first any, code int64) { add(first, code) }
	add(impl.ValidPoset(p), impl.SamePoset(p, other), impl.SamePoset(other, p), impl.PosetText(p))
	pair(impl.PosetOf(p.Size, p.Covers))
	pair(impl.PosetOf(other.Size, p.Covers))
	pair(impl.DualPoset(p))
	pair(impl.IdealOf(p, list))
	for _, name := range sortedNames(posetLists()) {
		pair(posetLists()[name](p))
	}
	for _, name := range sortedNames(posetNumbers()) {
		pair(posetNumbers()[name](p))
	}
	numbers := []int64{0, 1, 5, 11, -1, impl.MaxElements, math.MinInt64, math.MaxInt64}
	for _, a := range numbers {
		for _, b := range numbers {
			add(impl.IsBelow(p, a, b))
			pair(impl.MoebiusOf(p, a, b))
		}
	}
}

// posetResults calls all functions of chapter 6 with all kinds of arguments; it ends only if all of them return.
func posetResults() []any {
	var all []any
	add := func(results ...any) { all = append(all, results...) }
	odd := oddPosets()
	for _, p := range odd {
		for _, other := range odd[:30] {
			add(impl.SamePoset(p, other), impl.SamePoset(other, p))
		}
		usePoset(p, posetOf(12), upTo(p.Size%13), add)
	}
	for _, list := range append(oddVectors(), extremeNumbers(), upTo(12)) {
		usePoset(namedPosets()["a grid"], posetOf(12, list), list, add)
	}
	for _, size := range append(extremeNumbers(), 2, 3, 11, 12, 13) {
		for _, pairs := range [][][]int64{nil, {nil}, {{0, 1}}, {{0, size - 1}}, oddVectors(), allPairs(4), layersOf(6, 6).Covers} {
			p, code := impl.PosetOf(size, pairs)
			add(p, code)
		}
	}
	for _, s := range append(oddTexts(), "3 0<1 0<2", "3 0<1 0<2 ", "12", "13", "2 1<0") {
		p, ok := impl.ReadPoset(s)
		add(p, ok)
	}
	return all
}

func TestPosetsReturnEqualResults(t *testing.T) {
	t.Parallel()
	checkEqualResults(t, posetResults)
}

func TestPosetsAreLeft(t *testing.T) {
	t.Parallel()
	for i, given := range oddPosets() {
		if len(given.Covers) > 1000 {
			continue
		}
		covers, whole := spareLists(given.Covers)
		list, wholeList := withSpare([]int64{1, 0})
		before := copiedLists(whole)
		usePoset(posetOf(given.Size, covers...), posetOf(given.Size, covers...), list, func(...any) {})
		usePoset(posetOf(given.Size, covers...), posetOf(12), slices.Concat(covers...), func(...any) {})
		checkLeft(t, fmt.Sprint("the poset ", i), covers, whole, before)
		checkEqual(t, "the elements", wholeList, []int64{1, 0, 77, 78, 79})
	}
}

// TestPairsAreLeft gives PosetOf pairs that it must leave out or put in order.
func TestPairsAreLeft(t *testing.T) {
	for _, given := range [][][]int64{nil, {{2, 3}, {0, 2}, {0, 3}, {1, 1}}, {{2, 1}, {2, 0}, {2, 1}}, {{0, 1}, {1, 0}}, {{3, 2}, {1}, {0, 4}}, append([][]int64{{11, 10}}, layersOf(6, 6).Covers...)} {
		pairs, whole := spareLists(given)
		before := copiedLists(whole)
		impl.PosetOf(4, pairs)
		impl.PosetOf(12, pairs)
		checkLeft(t, fmt.Sprint("the pairs ", given), pairs, whole, before)
	}
}

// posetMemory calls all functions of chapter 6 that return memory, and returns each list of numbers, and each one of pairs, by a name.
func posetMemory(p impl.Poset, list []int64) (vectors map[string][]int64, lists map[string][][]int64) {
	vectors, lists = map[string][]int64{}, map[string][][]int64{}
	keep := func(what string, p impl.Poset) { keepMemory(vectors, lists, what, p.Covers) }
	made, _ := impl.PosetOf(p.Size, p.Covers)
	keep("PosetOf", made)
	dual, _ := impl.DualPoset(p)
	keep("DualPoset", dual)
	read, _ := impl.ReadPoset("3 0<1 0<2")
	keep("ReadPoset", read)
	vectors["IdealOf"], _ = impl.IdealOf(p, list)
	for what, call := range posetLists() {
		vectors[what], _ = call(p)
	}
	return vectors, lists
}

// TestPosetsReturnNewMemory takes pairs that are those of their poset, and a list that is its own ideal, where a function might return them themselves.
func TestPosetsReturnNewMemory(t *testing.T) {
	t.Parallel()
	covers, whole := spareLists([][]int64{{0, 2}, {1, 2}, {2, 4}, {3, 4}})
	list, wholeList := withSpare([]int64{0, 1, 2})
	before := copiedLists(whole)
	call := func() (map[string][]int64, map[string][][]int64) { return posetMemory(posetOf(5, covers...), list) }
	vectors, lists := call()
	checkEqual(t, "the numbers of lists", []int{len(vectors), len(lists)}, []int{4 + 4 + 2 + 4, 3})
	checkNewMemory(t, call, func(when string) {
		t.Helper()
		checkLeft(t, "the pairs"+when, covers, whole, before)
		checkEqual(t, "the elements"+when, wholeList, []int64{0, 1, 2, 77, 78, 79})
	})
}
