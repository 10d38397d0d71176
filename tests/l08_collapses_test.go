package tests

import (
	"fmt"
	"math/rand"
	"slices"
	"testing"

	"loop.example/g01005/impl"
)

// freePairsOf goes by the definition.
func freePairsOf(list [][]int64) [][]int64 {
	var pairs [][]int64
	for face := range list {
		var others []int64
		for k, s := range list {
			if k != face && isFaceOf(list[face], s) {
				others = append(others, int64(k))
			}
		}
		if len(others) == 1 {
			pairs = append(pairs, []int64{int64(face), others[0]})
		}
	}
	return pairs
}

func withoutPair(list [][]int64, pair []int64) [][]int64 {
	var left [][]int64
	for k, s := range list {
		if !slices.Contains(pair, int64(k)) {
			left = append(left, s)
		}
	}
	return left
}

// checkSameHomology checks the second half of P9, for a complex and what a collapse has left of it.
func checkSameHomology(t *testing.T, whole, left impl.Complex) {
	t.Helper()
	for _, p := range []int64{2, 3} {
		before, code := impl.BettiNumbers(whole, p)
		if code == impl.OK {
			after, code := impl.BettiNumbers(left, p)
			checkVector(t, fmt.Sprint("BettiNumbers of ", left, ", which is left of ", whole), after, code, before, impl.OK)
		}
		// What is left has all the homology of the whole.
		inside := aMap{left, whole, verticesOf(left)}
		for k := range int64(impl.MaxDimension + 1) {
			if inside.crowdedAround(k) {
				continue
			}
			rank, code := impl.InducedRank(left, whole, inside.images, k, p)
			checkNumber(t, fmt.Sprint("InducedRank of ", inside, " in the degree ", k), rank, code, levelOf(whole, k, p).betti(), impl.OK)
		}
	}
	before, _ := impl.EulerNumber(whole)
	after, code := impl.EulerNumber(left)
	checkNumber(t, fmt.Sprint("EulerNumber of ", left, ", which is left of ", whole), after, code, before, impl.OK)
}

// checkPairs checks FreePairs and CollapsePair.
func checkPairs(t *testing.T, c impl.Complex) {
	t.Helper()
	pairs, code := impl.FreePairs(c)
	want := freePairsOf(c.Simplices)
	checkLists(t, fmt.Sprint("FreePairs of ", c), pairs, code, want, impl.OK)
	for face := range int64(len(c.Simplices)) {
		left, code := impl.CollapsePair(c, face)
		k := slices.IndexFunc(want, func(pair []int64) bool { return pair[0] == face })
		if k < 0 {
			checkNoComplex(t, fmt.Sprint("CollapsePair of ", face, " of ", c), left, code, impl.ErrState)
			continue
		}
		checkComplex(t, fmt.Sprint("CollapsePair of ", face, " of ", c), left, code, complexOf(withoutPair(c.Simplices, want[k])...), impl.OK)
		checkEqual(t, fmt.Sprint("ValidComplex of ", left), impl.ValidComplex(left), true)
		checkSameHomology(t, c, left)
	}
}

// checkGreedy checks GreedyCollapse.
func checkGreedy(t *testing.T, c impl.Complex) {
	t.Helper()
	list, removed := c.Simplices, int64(0)
	for pairs := freePairsOf(list); len(pairs) > 0; pairs = freePairsOf(list) {
		list = withoutPair(list, pairs[0])
		removed++
	}
	left, number, code := impl.GreedyCollapse(c)
	checkComplex(t, fmt.Sprint("GreedyCollapse of ", c), left, code, complexOf(list...), impl.OK)
	checkEqual(t, fmt.Sprint("the number of pairs removed from ", c), number, removed)
	checkSameHomology(t, c, left)
}

// pointSearch goes through all ways to remove pairs, as the document says, but gives up if there are more nodes than a budget can be.
type pointSearch struct {
	nodes int64
	faces [][]int64
}

func (s *pointSearch) ends(list [][]int64) bool {
	if len(list) == 1 || s.nodes > impl.MaxBudget {
		return len(list) == 1
	}
	for _, pair := range freePairsOf(list) {
		s.nodes++
		if s.ends(withoutPair(list, pair)) {
			s.faces = append([][]int64{list[pair[0]]}, s.faces...)
			return true
		}
	}
	return false
}

// checkPoint checks CollapseToPoint with budgets that suffice and some that do not, and returns what has been found.
func checkPoint(t *testing.T, c impl.Complex) pointSearch {
	t.Helper()
	var s pointSearch
	ends := s.ends(c.Simplices)
	for budget, wantCode := range budgetsAround(s.nodes) {
		if wantCode == impl.OK && !ends {
			wantCode = impl.ErrNotFound
		}
		faces, code := impl.CollapseToPoint(c, budget)
		what := fmt.Sprint("CollapseToPoint of ", c, " with the budget ", budget)
		if wantCode != impl.OK {
			checkLists(t, what, faces, code, nil, wantCode)
		} else {
			checkLists(t, what, faces, code, s.faces, impl.OK)
		}
	}
	if ends {
		checkWay(t, c, s.faces)
	}
	return s
}

// checkWay removes the pairs of some faces one after the other, by CollapsePair, until a vertex is left.
func checkWay(t *testing.T, c impl.Complex, faces [][]int64) {
	t.Helper()
	left := c
	for _, face := range faces {
		next, code := impl.CollapsePair(left, indexIn(left.Simplices, face))
		checkEqual(t, fmt.Sprint("the code of CollapsePair of ", face, " of ", left), code, impl.OK)
		left = next
	}
	checkEqual(t, fmt.Sprint("what is left of ", c), len(left.Simplices) == 1 && len(left.Simplices[0]) == 1, true)
}

func TestCollapsesOfSmallComplexes(t *testing.T) {
	t.Parallel()
	for _, c := range smallComplexes(4) {
		checkPairs(t, c)
		checkGreedy(t, c)
		checkPoint(t, c)
	}
	for _, c := range smallComplexes(5)[167:] {
		pairs, code := impl.FreePairs(c)
		checkLists(t, fmt.Sprint("FreePairs of ", c), pairs, code, freePairsOf(c.Simplices), impl.OK)
	}
}

func TestCollapsesOfLargerComplexes(t *testing.T) {
	t.Parallel()
	for _, c := range chainComplexes() {
		checkPairs(t, c)
		checkGreedy(t, c)
	}
	r := rand.New(rand.NewSource(86))
	for range 60 {
		c := randomComplex(r)
		checkPairs(t, c)
		checkGreedy(t, c)
	}
}

// randomTree returns a complex that collapses to a vertex, as it is built of simplices each of which has one face in common with what is there.
func randomTree(r *rand.Rand) impl.Complex {
	list := closureOf([][]int64{randomSimplex(r)})
	for range r.Intn(12) {
		base := list[r.Intn(len(list))]
		vertex := r.Int63n(impl.MaxVertices)
		if len(base) > impl.MaxDimension || slices.Contains(slices.Concat(list...), vertex) {
			continue
		}
		top := append(slices.Clone(base), vertex)
		slices.Sort(top)
		if next := closureOf(append(slices.Clone(list), top)); len(next) <= impl.MaxSimplices {
			list = next
		}
	}
	return complexOf(list...)
}

func TestCollapsesOfTrees(t *testing.T) {
	t.Parallel()
	r := rand.New(rand.NewSource(87))
	for range 200 {
		c := randomTree(r)
		checkPairs(t, c)
		checkGreedy(t, c)
		s := checkPoint(t, c)
		checkEqual(t, fmt.Sprint("the number of faces for ", c), 2*len(s.faces)+1, len(c.Simplices))
	}
}

// TestEnoughNodes takes complexes with names and random ones, of which only some collapse to a vertex.
func TestEnoughNodes(t *testing.T) {
	t.Parallel()
	for _, what := range []string{"no simplices", "a vertex", "the last vertex", "an edge", "a simplex", "all vertices", "a sphere", "a torus", "a path in disorder", "a part of great vertices"} {
		checkPoint(t, namedComplexes()[what])
	}
	r := rand.New(rand.NewSource(88))
	for range 20 {
		checkPoint(t, randomComplex(r))
	}
}

// allWays returns all lists of faces by which simplices collapse to a vertex.
func allWays(list [][]int64) [][][]int64 {
	if len(list) == 1 {
		return [][][]int64{{}}
	}
	var ways [][][]int64
	for _, pair := range freePairsOf(list) {
		for _, way := range allWays(withoutPair(list, pair)) {
			ways = append(ways, append([][]int64{list[pair[0]]}, way...))
		}
	}
	return ways
}

// TestFirstOfAllWays does not rely on the order in which a search tries the pairs.
func TestFirstOfAllWays(t *testing.T) {
	t.Parallel()
	count := 0
	for _, c := range smallComplexes(4) {
		if len(c.Simplices) > 11 {
			continue
		}
		ways := allWays(c.Simplices)
		if len(ways) == 0 {
			faces, code := impl.CollapseToPoint(c, impl.MaxBudget)
			checkLists(t, fmt.Sprint("CollapseToPoint of ", c), faces, code, nil, impl.ErrNotFound)
			continue
		}
		first := slices.MinFunc(ways, func(a, b [][]int64) int {
			return slices.CompareFunc(a, b, func(s, other []int64) int { return int(orderOf(s, other)) })
		})
		faces, code := impl.CollapseToPoint(c, impl.MaxBudget)
		checkLists(t, fmt.Sprint("CollapseToPoint of ", c), faces, code, first, impl.OK)
		count += len(ways)
	}
	checkEqual(t, "whether there are ways", count > 1000, true)
}

// TestKnownCollapses has complexes without a free pair, and such whose faces are no vertices, in order.
func TestKnownCollapses(t *testing.T) {
	for text, want := range map[string][][]int64{
		"-": nil, "3": nil, "0/1/9": nil, "0,1/0,2/1,2": nil, "0,1,2/0,1,3/0,2,3/1,2,3": nil,
		"2,7":             {{0, 2}, {1, 2}},
		"0,1/1,2":         {{0, 3}, {2, 4}},
		"0,1/0,2/0,3":     {{1, 4}, {2, 5}, {3, 6}},
		"1,4,6":           {{3, 6}, {4, 6}, {5, 6}},
		"0,1,2/1,2,3":     {{4, 9}, {5, 9}, {7, 10}, {8, 10}},
		"0,3/0,1,2":       {{3, 6}, {4, 8}, {5, 8}, {7, 8}},
		"0,1,2/0,1,3":     {{5, 9}, {6, 10}, {7, 9}, {8, 10}},
		"0,1,2,3":         {{10, 14}, {11, 14}, {12, 14}, {13, 14}},
		"0,1,2,3/1,2,3,4": {{14, 21}, {15, 21}, {16, 21}, {18, 22}, {19, 22}, {20, 22}},
	} {
		c, ok := impl.ReadComplex(text)
		checkEqual(t, "ReadComplex of "+text, ok, true)
		pairs, code := impl.FreePairs(c)
		checkLists(t, "FreePairs of "+text, pairs, code, want, impl.OK)
	}
	for _, given := range []struct {
		text, left string
		removed    int64
	}{
		{"-", "-", 0}, {"3", "3", 0}, {"0/1/9", "0/1/9", 0}, {"0,1/0,2/1,2", "0,1/0,2/1,2", 0}, {"2,7", "7", 1}, {"0,1/1,2", "2", 2}, {"1,4,6", "6", 3}, {"0,1,2,3", "3", 7},
		{"0,1/0,3/0,4/1,2/2,3", "0,1/0,3/1,2/2,3", 1}, {"3,4/0,1,2", "2/4", 4}, {"0,1,2/0,1,3/0,2,3/1,2,3", "0,1,2/0,1,3/0,2,3/1,2,3", 0},
	} {
		c, _ := impl.ReadComplex(given.text)
		left, removed, code := impl.GreedyCollapse(c)
		checkEqual(t, "GreedyCollapse of "+given.text, impl.ComplexText(left), given.left)
		checkNumber(t, "the number of pairs removed from "+given.text, removed, code, given.removed, impl.OK)
	}
}

// TestKnownWays also has complexes that never collapse to a vertex, with the numbers of all their nodes.
func TestKnownWays(t *testing.T) {
	for text, want := range map[string][][]int64{
		"3": {}, "2,7": {{2}}, "0,1/1,2": {{0}, {1}}, "0,1/0,2/0,3": {{1}, {2}, {0}}, "1,4,6": {{1, 4}, {1}, {4}}, "0,1,2/1,2,3": {{0, 1}, {0}, {1, 2}, {1}, {2}},
	} {
		c, _ := impl.ReadComplex(text)
		faces, code := impl.CollapseToPoint(c, max(1, int64(len(want))))
		checkLists(t, "CollapseToPoint of "+text, faces, code, want, impl.OK)
		checkPoint(t, c)
	}
	for text, nodes := range map[string]int64{
		"-": 0, "0/1": 0, "0,1/0,2/1,2": 0, "0,1/0,3/0,4/1,2/2,3": 1, "0,1/0,3/0,4/1,2/2,3/4,5": 2, "0,1/0,3/0,4/0,5/1,2/2,3": 2 + 2,
		"0,1/2,3": 4 + 4*2, "0,1/2,3/4,5": 6 + 6*4 + 6*4*2, "0,1/2,3/4,5/6,7": 8 + 8*6 + 8*6*4 + 8*6*4*2, "0,1/2,3/4,5/6,7/8,9": 10 + 10*8 + 10*8*6 + 10*8*6*4 + 10*8*6*4*2,
	} {
		c, ok := impl.ReadComplex(text)
		checkEqual(t, "ReadComplex of "+text, ok, true)
		s := checkPoint(t, c)
		checkEqual(t, "the number of nodes of "+text, s.nodes, nodes)
		faces, code := impl.CollapseToPoint(c, max(1, nodes))
		checkLists(t, "CollapseToPoint of "+text, faces, code, nil, impl.ErrNotFound)
		if nodes > 1 {
			faces, code := impl.CollapseToPoint(c, nodes-1)
			checkLists(t, "CollapseToPoint of "+text, faces, code, nil, impl.ErrFull)
		}
	}
	// Two triangles apart never collapse to a vertex, but there are too many ways to find that out.
	far, _ := impl.ReadComplex("0,1,2,3/4,5,6,7")
	faces, code := impl.CollapseToPoint(far, impl.MaxBudget)
	checkLists(t, "CollapseToPoint of two simplices", faces, code, nil, impl.ErrFull)
}
