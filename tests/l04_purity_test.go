package tests

import (
	"fmt"
	"maps"
	"slices"
	"testing"

	"loop.example/g01005/impl"
)

// oddSpaces returns spaces that are valid or not.
func oddSpaces() []impl.Space {
	list := []impl.Space{
		spaceOf(2, 0), spaceOf(3, 0), spaceOf(3, 1), fullSpace(3, 1), spaceOf(3, 2), fullSpace(3, 2), spaceOf(3, 2, []int64{1, 2}), spaceOf(3, 2, []int64{0, 1}), spaceOf(5, 2, []int64{1, 2}),
		spaceOf(3, impl.MaxSide), fullSpace(3, impl.MaxSide), spaceOf(3, impl.MaxSide, filled(impl.MaxSide, 1)), fullSpace(impl.MaxPrime, impl.MaxSide),
	}
	wrong := wrongSpaces()
	for _, what := range slices.Sorted(maps.Keys(wrong)) {
		list = append(list, wrong[what])
	}
	return list
}

// useSpaces calls all functions of one or two spaces.
func useSpaces(a, b impl.Space, x []int64, add func(results ...any)) {
	pair := func(first any, code int64) { add(first, code) }
	pair(impl.SumSpaces(a, b))
	pair(impl.MeetSpaces(a, b))
	pair(impl.QuotientOf(a, b))
	pair(impl.SpaceOf(a.Prime, a.Length, b.Basis))
	pair(impl.OrthogonalOf(a))
	pair(impl.ComplementOf(a))
	pair(impl.CoordinatesIn(a, x))
	add(impl.SameSpace(a, b), impl.ValidSpace(a), impl.ContainsVector(a, x), impl.SpaceText(a))
}

// useSystem calls all functions of a matrix and its numbers.
func useSystem(m impl.Matrix, b []int64, add func(results ...any)) {
	pair := func(first any, code int64) { add(first, code) }
	pair(impl.KernelOf(m))
	pair(impl.ColumnSpace(m))
	pair(impl.Solve(m, b))
	pair(impl.Certificate(m, b))
}

// spaceResults calls all functions of chapter 4 with all kinds of arguments; it ends only if all of them return.
func spaceResults() []any {
	var all []any
	add := func(results ...any) { all = append(all, results...) }
	for _, a := range oddSpaces() {
		for _, b := range oddSpaces()[:20] {
			useSpaces(b, a, nil, add)
			useSpaces(a, b, slices.Concat(b.Basis...), add)
		}
		for _, x := range oddVectors() {
			useSpaces(a, a, x, add)
		}
	}
	for _, m := range oddMatrices() {
		for _, b := range append(oddVectors(), []int64{0, 1}, filled(impl.MaxSide, 1)) {
			useSystem(m, b, add)
		}
	}
	lists := [][][]int64{nil, {nil}, {{0, 1}, {1}}, oddVectors()}
	for _, p := range append(extremeNumbers(), 2, 7, 251) {
		for _, length := range append(extremeNumbers(), 2, 31, 32, 33) {
			for _, vectors := range lists {
				v, code := impl.SpaceOf(p, length, vectors)
				add(v, code)
			}
		}
	}
	for _, s := range append(oddTexts(), "2 2/1,1", "2 2/1,2", "2 0", "2 0/-", "2 32") {
		v, ok := impl.ReadSpace(s)
		add(v, ok)
	}
	return all
}

func TestSpacesReturnEqualResults(t *testing.T) {
	t.Parallel()
	checkEqualResults(t, spaceResults)
}

// spareLists returns a list of the same lists with unused capacity, in all of them and behind them, and the whole memory behind it.
func spareLists(lists [][]int64) (short, whole [][]int64) {
	for _, list := range lists {
		listShort, listWhole := withSpare(list)
		short = append(short, listShort)
		whole = append(whole, listWhole)
	}
	short = append(short, []int64{77}, []int64{78}, []int64{79})
	return short[:len(lists)], append(whole, short[len(lists):]...)
}

// copiedLists returns what a whole memory of spareLists holds.
func copiedLists(lists [][]int64) [][]int64 {
	var copies [][]int64
	for _, list := range lists {
		copies = append(copies, slices.Clone(list))
	}
	return copies
}

// checkLeft checks that lists are those from before, and that the spare places behind short still hold what they did.
func checkLeft(t *testing.T, what string, short, whole, before [][]int64) {
	t.Helper()
	checkEqual(t, what, equalLists(whole, before), true)
	for i, list := range short[:len(whole)] {
		if n := min(len(list), len(whole[i])); n > 0 && &list[0] != &whole[i][0] {
			t.Errorf("%s: the list %d is another one", what, i)
		}
	}
}

func TestSpacesAreLeft(t *testing.T) {
	t.Parallel()
	for _, first := range oddSpaces() {
		for _, second := range oddSpaces()[:20] {
			a, b := first, second
			var wholeA, wholeB [][]int64
			a.Basis, wholeA = spareLists(first.Basis)
			b.Basis, wholeB = spareLists(second.Basis)
			beforeA, beforeB := copiedLists(wholeA), copiedLists(wholeB)
			x, wholeX := withSpare([]int64{1, 2})
			useSpaces(a, b, x, func(...any) {})
			useSpaces(b, a, x, func(...any) {})
			checkLeft(t, fmt.Sprint("the first space, of ", len(a.Basis), " vectors"), a.Basis, wholeA, beforeA)
			checkLeft(t, fmt.Sprint("the second space, of ", len(b.Basis), " vectors"), b.Basis, wholeB, beforeB)
			checkEqual(t, "the vector", wholeX, []int64{1, 2, 77, 78, 79})
		}
	}
	for _, matrix := range oddMatrices() {
		m := matrix
		var wholeM []int64
		m.Cells, wholeM = withSpare(matrix.Cells)
		before := slices.Clone(wholeM)
		for _, numbers := range [][]int64{nil, {1}, {1, 1}, filled(impl.MaxSide, 1)} {
			b, wholeB := withSpare(numbers)
			useSystem(m, b, func(...any) {})
			checkEqual(t, "the cells", slices.Equal(wholeM, before), true)
			checkEqual(t, "the numbers", wholeB, append(slices.Clone(numbers), 77, 78, 79))
		}
	}
}

// spaceLists calls all functions of chapter 4 that return memory, and returns each vector, and the list of them, by a name.
func spaceLists(a, b impl.Space, m impl.Matrix, x []int64) (vectors map[string][]int64, lists map[string][][]int64) {
	vectors, lists = map[string][]int64{}, map[string][][]int64{}
	keep := func(what string, list [][]int64) { keepMemory(vectors, lists, what, list) }
	space := func(what string) func(impl.Space, int64) {
		return func(v impl.Space, _ int64) { keep(what, v.Basis) }
	}
	list := func(what string) func([][]int64, int64) {
		return func(list [][]int64, _ int64) { keep(what, list) }
	}
	vector := func(what string) func([]int64, int64) {
		return func(v []int64, _ int64) { vectors[what] = v }
	}
	space("SpaceOf")(impl.SpaceOf(a.Prime, a.Length, a.Basis))
	space("ColumnSpace")(impl.ColumnSpace(m))
	space("SumSpaces")(impl.SumSpaces(a, b))
	space("SumSpaces, exchanged")(impl.SumSpaces(b, a))
	space("MeetSpaces")(impl.MeetSpaces(a, a))
	space("OrthogonalOf")(impl.OrthogonalOf(b))
	space("ComplementOf")(impl.ComplementOf(b))
	list("QuotientOf")(impl.QuotientOf(a, b))
	list("KernelOf")(impl.KernelOf(matrixOf(5, 1, 3, m.Cells[:3]...)))
	vector("CoordinatesIn")(impl.CoordinatesIn(a, x))
	vector("Solve")(impl.Solve(m, x))
	vector("Certificate")(impl.Certificate(matrixOf(5, 3, 1, m.Cells[:3]...), x))
	read, _ := impl.ReadSpace("5 2/1,0/0,1")
	keep("ReadSpace", read.Basis)
	return vectors, lists
}

// keepMemory adds the lists of numbers of a result, and its list of them, to those that are known by names.
func keepMemory(vectors map[string][]int64, lists map[string][][]int64, what string, result any) {
	switch value := result.(type) {
	case impl.Matrix:
		vectors[what] = value.Cells
	case []int64:
		vectors[what] = value
	case impl.Complex:
		lists[what] = value.Simplices
	case [][]int64:
		lists[what] = value
	}
	for i, list := range lists[what] {
		vectors[fmt.Sprint(what, ", list ", i)] = list
	}
}

// checkNewMemory spoils each list that a call returns, up to its capacity; what was given, and all other lists, must be left.
func checkNewMemory(t *testing.T, call func() (map[string][]int64, map[string][][]int64), checkGiven func(when string)) {
	t.Helper()
	want, wantLists := call()
	check := func(what string, vectors map[string][]int64, lists map[string][][]int64) {
		t.Helper()
		when := " after a change of " + what
		for other, vector := range vectors {
			checkEqual(t, other+when, vector, want[other])
		}
		for other, list := range lists {
			checkEqual(t, other+when, list, wantLists[other])
		}
		checkGiven(when)
		again, againLists := call()
		checkEqual(t, "all vectors"+when, again, want)
		checkEqual(t, "all lists"+when, againLists, wantLists)
	}
	for what := range want {
		vectors, _ := call()
		spoilt := vectors[what][:cap(vectors[what])]
		for i := range spoilt {
			spoilt[i] = 99
		}
		delete(vectors, what)
		check(what, vectors, nil)
	}
	for what := range wantLists {
		vectors, lists := call()
		clear(lists[what][:cap(lists[what])])
		delete(lists, what)
		check(what, vectors, lists)
	}
}

// TestSpacesReturnNewMemory takes arguments whose results equal them, where a function might return them themselves.
func TestSpacesReturnNewMemory(t *testing.T) {
	basis, wholeBasis := spareLists(fullSpace(5, 3).Basis)
	before := copiedLists(wholeBasis)
	cells, wholeCells := withSpare(unitOf(5, 3).Cells)
	x, wholeX := withSpare([]int64{0, 1, 2})
	call := func() (map[string][]int64, map[string][][]int64) {
		return spaceLists(spaceOf(5, 3, basis...), spaceOf(5, 3), matrixOf(5, 3, 3, cells...), x)
	}
	_, lists := call()
	checkEqual(t, "the number of lists", len(lists), 10)
	checkNewMemory(t, call, func(when string) {
		t.Helper()
		checkLeft(t, "the Basis"+when, basis, wholeBasis, before)
		checkEqual(t, "the cells"+when, wholeCells, append(slices.Clone(unitOf(5, 3).Cells), 77, 78, 79))
		checkEqual(t, "the vector"+when, wholeX, []int64{0, 1, 2, 77, 78, 79})
	})
}
