package tests

import (
	"fmt"
	"math"
	"slices"
	"testing"

	"loop.example/g01005/impl"
)

// useChains calls all functions of chapter 7 with a chain and with another one, which are also given as paths.
func useChains(c impl.Complex, k, p int64, chain, other []int64, add func(results ...any)) {
	pair := func(first any, code int64) { add(first, code) }
	for _, name := range sortedNames(degreeCalls()) {
		pair(degreeCalls()[name](c, k, p, chain))
	}
	for _, name := range sortedNames(chainCalls()) {
		pair(chainCalls()[name](c, k, p, chain))
	}
	add(impl.IsCycle(c, k, p, chain), impl.IsBoundary(c, k, p, chain), impl.SameHomology(c, k, p, chain, other), impl.SameHomology(c, k, p, other, chain))
	pair(impl.BettiNumbers(c, p))
	pair(impl.LoopChain(c, p, chain))
	pair(impl.LoopChain(c, p, other))
}

// purityComplexes are complexes with and without cycles, with too many simplices, and some that are not valid.
func purityComplexes() []impl.Complex {
	named, wrong := chainComplexes(), wrongComplexes()
	var list []impl.Complex
	for _, what := range []string{"no simplices", "a vertex", "a simplex", "all vertices", "a sphere", "a sphere of dimension 3", "a torus", "a projective plane", "a Moebius band", "32 edges and triangles", "33 edges and triangles", "33 edges and a simplex of MaxDimension"} {
		list = append(list, named[what])
	}
	for _, what := range []string{"vertices in another order", "an edge alone", "an edge twice", "a triangle without an edge", "a simplex of a dimension too great", "a simplex too many", "all simplices"} {
		list = append(list, wrong[what])
	}
	return list
}

// chainResults calls all functions of chapter 7 with all kinds of arguments; it ends only if all of them return.
func chainResults() []any {
	var all []any
	add := func(results ...any) { all = append(all, results...) }
	for _, c := range purityComplexes() {
		for _, k := range []int64{0, 1, 2, 3, -1, 4, math.MinInt64, math.MaxInt64} {
			size := len(simplicesOf(c, k))
			for _, p := range []int64{2, impl.MaxPrime, 1, 0, -1, math.MinInt64, math.MaxInt64} {
				useChains(c, k, p, filled(size, 1), filled(size, 0), add)
				useChains(c, k, p, filled(size+1, 1), nil, add)
			}
		}
	}
	for _, chain := range append(oddVectors(), extremeNumbers(), []int64{0, 1, 3, 0}, []int64{0, 3, 1, 0}) {
		for k := range int64(impl.MaxDimension + 1) {
			useChains(torus(), k, 5, chain, []int64{0, 1, 2, 0}, add)
		}
	}
	return all
}

func TestChainsReturnEqualResults(t *testing.T) {
	t.Parallel()
	checkEqualResults(t, chainResults)
}

func TestChainsAreLeft(t *testing.T) {
	t.Parallel()
	for i, given := range purityComplexes() {
		c, whole := spareLists(given.Simplices)
		before := copiedLists(whole)
		for _, k := range []int64{-1, 0, 1, 2, 3} {
			size := len(simplicesOf(given, k))
			for _, numbers := range [][]int64{nil, filled(size, 0), filled(size, 1), filled(size+1, 6), {0, 1, 2, 0}, {0, 2, 1, 0}, {-1}} {
				for _, p := range []int64{0, 2, 7} {
					chain, wholeChain := withSpare(numbers)
					other, wholeOther := withSpare(filled(size, 1))
					useChains(complexOf(c...), k, p, chain, other, func(...any) {})
					checkEqual(t, "the chain", slices.Equal(wholeChain, append(slices.Clone(numbers), 77, 78, 79)), true)
					checkEqual(t, "the other chain", slices.Equal(wholeOther, append(filled(size, 1), 77, 78, 79)), true)
				}
			}
		}
		checkLeft(t, fmt.Sprint("the complex ", i), c, whole, before)
	}
}

// chainMemory calls all functions of chapter 7 that return memory, in each degree, and returns each list of numbers, and each one of cycles, by a name.
func chainMemory(c impl.Complex, chains [][]int64, path []int64) (vectors map[string][]int64, lists map[string][][]int64) {
	vectors, lists = map[string][]int64{}, map[string][][]int64{}
	keep := func(what string, result any) { keepMemory(vectors, lists, what, result) }
	for k, chain := range chains {
		for _, calls := range []map[string]chainCall{degreeCalls(), chainCalls()} {
			for what, call := range calls {
				result, _ := call(c, int64(k), 7, chain)
				keep(fmt.Sprint(what, " in the degree ", k), result)
			}
		}
	}
	numbers, _ := impl.BettiNumbers(c, 7)
	keep("BettiNumbers", numbers)
	loop, _ := impl.LoopChain(c, 7, path)
	keep("LoopChain", loop)
	return vectors, lists
}

// TestChainsReturnNewMemory takes chains that are their own classes, where a function might return them themselves.
func TestChainsReturnNewMemory(t *testing.T) {
	t.Parallel()
	// Without edges, each chain of points is its own class, and so are zeros their own filling.
	for _, facets := range [][][]int64{{{0}, {3}, {5}, {9}}, {{0, 1, 2}, {0, 3}, {2, 3}, {1, 3}, {4}}, {{0, 1, 2}, {0, 1, 3}, {0, 2, 3}, {1, 2, 3}, {0, 4}, {3, 4}}} {
		simplices, whole := spareLists(closureOf(facets))
		before := copiedLists(whole)
		var chains, wholeChains [][]int64
		for k := range int64(3) {
			size := len(simplicesOf(complexOf(simplices...), k))
			chain, wholeChain := withSpare(filled(size, int64(max(0, 1-k))))
			chains, wholeChains = append(chains, chain), append(wholeChains, wholeChain)
		}
		beforeChains := copiedLists(wholeChains)
		path, wholePath := withSpare([]int64{0, 3, 2, 0})
		call := func() (map[string][]int64, map[string][][]int64) {
			return chainMemory(complexOf(simplices...), chains, path)
		}
		_, lists := call()
		checkEqual(t, "the number of lists", len(lists), 6)
		checkNewMemory(t, call, func(when string) {
			t.Helper()
			checkLeft(t, "the simplices"+when, simplices, whole, before)
			checkEqual(t, "the chains"+when, equalLists(wholeChains, beforeChains), true)
			checkEqual(t, "the path"+when, wholePath, []int64{0, 3, 2, 0, 77, 78, 79})
		})
	}
}
