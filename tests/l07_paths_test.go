package tests

import (
	"fmt"
	"math/rand"
	"slices"
	"testing"

	"loop.example/g01005/impl"
)

// loopOf returns the chain of a path and a code by the definition, where there is room for the edges.
func loopOf(c impl.Complex, p int64, path []int64) ([]int64, int64) {
	if len(path) < 2 || len(path) > 64 || path[0] != path[len(path)-1] {
		return nil, impl.ErrOrder
	}
	edges := simplicesOf(c, 1)
	chain := make([]int64, len(edges))
	for i := 1; i < len(path); i++ {
		place := slices.IndexFunc(edges, func(edge []int64) bool {
			return slices.Equal(edge, []int64{path[i-1], path[i]}) || slices.Equal(edge, []int64{path[i], path[i-1]})
		})
		if place < 0 {
			return nil, impl.ErrNotFound
		}
		if path[i-1] < path[i] {
			chain[place] = (chain[place] + 1) % p
		} else {
			chain[place] = (chain[place] + p - 1) % p
		}
	}
	return chain, impl.OK
}

// checkLoop checks LoopChain, and that its chain is a cycle; it returns the code.
func checkLoop(t *testing.T, c impl.Complex, p int64, path []int64) int64 {
	t.Helper()
	want, wantCode := loopOf(c, p, path)
	loop, code := impl.LoopChain(c, p, path)
	what := fmt.Sprint(" of ", path, " and ", c, " modulo ", p)
	checkVector(t, "LoopChain"+what, loop, code, want, wantCode)
	if wantCode == impl.OK {
		checkEqual(t, "whether it is a cycle"+what, impl.IsCycle(c, 1, p, loop), true)
	}
	return code
}

func TestAllShortPaths(t *testing.T) {
	t.Parallel()
	codes := map[int64]int{}
	paths := listsOf([]int64{0, 1, 2, 3}, 5)
	for _, c := range smallComplexes(4) {
		for i, path := range paths {
			codes[checkLoop(t, c, []int64{2, 3, 5}[i%3], path)]++
		}
	}
	checkEqual(t, "whether all codes have come often", codes[impl.OK] > 1000 && codes[impl.ErrOrder] > 1000 && codes[impl.ErrNotFound] > 1000, true)
}

// randomWalk goes along random edges from a vertex, and back to it if that is possible with few steps.
func randomWalk(r *rand.Rand, c impl.Complex, steps int) []int64 {
	edges := simplicesOf(c, 1)
	path := slices.Clone(edges[r.Intn(len(edges))])
	for range steps {
		var next []int64
		for _, edge := range edges {
			for i, vertex := range edge {
				if vertex == path[len(path)-1] {
					next = append(next, edge[1-i])
				}
			}
		}
		path = append(path, next[r.Intn(len(next))])
		if path[0] == path[len(path)-1] && r.Intn(4) == 0 {
			return path
		}
	}
	return path
}

func TestRandomPaths(t *testing.T) {
	t.Parallel()
	r := rand.New(rand.NewSource(45))
	primes := allPrimes()
	codes := map[int64]int{}
	for range 150 {
		c := randomComplex(r)
		if count := len(simplicesOf(c, 1)); count == 0 || count > impl.MaxSide {
			continue
		}
		for range 20 {
			path := randomWalk(r, c, r.Intn(70))
			p := primes[r.Intn(len(primes))]
			codes[checkLoop(t, c, p, path)]++
			path[r.Intn(len(path))] = r.Int63n(impl.MaxVertices)
			codes[checkLoop(t, c, p, path)]++
			path[len(path)-1] = path[0]
			codes[checkLoop(t, c, p, path)]++
		}
	}
	checkEqual(t, "whether all codes have come often", codes[impl.OK] > 500 && codes[impl.ErrOrder] > 500 && codes[impl.ErrNotFound] > 500, true)
}

// crowdedRing is a ring with as many edges as there is room for.
func crowdedRing() impl.Complex { return edgesAndMore(9, 32, []int64{0, 1, 2}) }

func TestExamplesOfPaths(t *testing.T) {
	ring := complexOf(closureOf([][]int64{{2, 5}, {5, 9}, {2, 9}, {4}, {3, 9}})...) // with the edges 2,5 and 2,9 and 3,9 and 5,9
	check := func(p int64, path []int64, want ...int64) {
		t.Helper()
		loop, code := impl.LoopChain(ring, p, path)
		checkVector(t, fmt.Sprint("LoopChain of ", path), loop, code, want, impl.OK)
	}
	for _, p := range allPrimes() {
		check(p, []int64{2, 5, 9, 2}, 1, p-1, 0, 1)
		check(p, []int64{2, 9, 5, 2}, p-1, 1, 0, p-1)
		check(p, []int64{5, 9, 2, 5}, 1, p-1, 0, 1)
		check(p, []int64{9, 3, 9}, 0, 0, 0, 0)
		check(p, []int64{3, 9, 3, 9, 3}, 0, 0, 0, 0)
		check(p, []int64{2, 5, 9, 2, 5, 9, 2}, 2%p, p-2, 0, 2%p)
		check(p, []int64{2, 5, 9, 2, 9, 5, 2}, 0, 0, 0, 0)
		check(p, []int64{2, 5, 9, 3, 9, 2}, 1, p-1, 0, 1)
	}
	// A path of MaxList numbers goes 21 times around.
	around := append(slices.Repeat([]int64{2, 5, 9}, 21), 2)
	checkEqual(t, "the length of the path", len(around), impl.MaxList)
	check(2, around, 1, 1, 0, 1)
	check(3, around, 0, 0, 0, 0)
	check(5, around, 1, 4, 0, 1)
	check(7, around, 0, 0, 0, 0)
	check(19, around, 2, 17, 0, 2)
	check(impl.MaxPrime, around, 21, 230, 0, 21)
	slices.Reverse(around)
	check(impl.MaxPrime, around, 230, 21, 0, 230)
	check(impl.MaxPrime, append(slices.Repeat([]int64{3, 9}, 31), 3), 0, 0, 0, 0)
	for _, path := range [][]int64{{0, 1, 2, 0}, {0, 8, 4, 0}, {8, 0, 8}} {
		checkEqual(t, "the code with 32 edges", checkLoop(t, crowdedRing(), 3, path), impl.OK)
	}
}

// TestPathsWithoutAResult also checks that a list that is no path comes before edges that are missing.
func TestPathsWithoutAResult(t *testing.T) {
	ring := complexOf(closureOf([][]int64{{2, 5}, {5, 9}, {2, 9}, {4}})...)
	check := func(path []int64, want int64) {
		t.Helper()
		for _, p := range somePrimes() {
			loop, code := impl.LoopChain(ring, p, path)
			checkFails(t, fmt.Sprintf("LoopChain of %.60s", fmt.Sprint(path)), loop, code, want)
		}
	}
	for _, path := range [][]int64{
		nil, {}, {2}, {4}, {0}, {2, 5}, {2, 5, 9}, {2, 5, 9, 5}, {2, 4}, {0, 1}, {2, 5, 2, 5},
		append(slices.Repeat([]int64{2, 5}, 32), 2), append(slices.Repeat([]int64{2, 5, 9}, 22), 2), filled(impl.MaxList+1, 2), filled(impl.MaxList+1, 0), filled(100000, 2), append(slices.Repeat([]int64{2, 5}, 31), 9, 4),
	} {
		check(path, impl.ErrOrder)
	}
	for _, path := range [][]int64{
		{2, 2}, {4, 4}, {0, 0}, {2, 2, 2}, {2, 5, 5, 2}, {2, 5, 2, 2}, {2, 2, 5, 2}, {2, 4, 2}, {4, 2, 4}, {2, 5, 4, 2}, {2, 5, 9, 4, 2}, {2, 0, 2}, {3, 5, 3}, {0, 1, 0},
		filled(impl.MaxList, 2), append(slices.Repeat([]int64{2, 5, 9}, 20), 2, 5, 4, 2),
	} {
		check(path, impl.ErrNotFound)
	}
	for _, n := range outsideVertices() {
		for _, path := range [][]int64{{n, n}, {2, n, 2}, {n, 2, n}, {2, 5, n, 2}, {2, 5, 9, n, 2}, {n, 2, 5, n}, {n, 5, 9, 2, n}} {
			check(path, impl.ErrNotFound)
		}
		check([]int64{n}, impl.ErrOrder)
		check([]int64{n, 2}, impl.ErrOrder)
		check([]int64{2, n}, impl.ErrOrder)
		check(filled(impl.MaxList+1, n), impl.ErrOrder)
	}
}
