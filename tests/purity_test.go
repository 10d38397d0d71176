package tests

import (
	"maps"
	"math"
	"slices"
	"strings"
	"testing"

	"loop.example/g01005/impl"
)

// oddTexts returns texts that no function expects.
func oddTexts() []string {
	return []string{"", " ", "-", ",", "--", "\x00", "\xff\xfe", "é", "0", "-0", "a b", "1,2", strings.Repeat(" ", 100000), strings.Repeat("9", 100000), strings.Repeat("0,", 100000), strings.Repeat("a", 100000)}
}

// basicsResults calls all functions of chapter 1 with all kinds of arguments; it ends only if all of them return.
func basicsResults() []any {
	var all []any
	for _, s := range oddTexts() {
		n, isNumber := impl.ReadDecimal(s)
		list, isList := impl.ReadList(s)
		all = append(all, impl.IsName(s), n, isNumber, impl.SplitWords(s), list, isList)
		for _, start := range []int64{math.MinInt64, -1, 0, 65535, 65536, math.MaxInt64} {
			all = append(all, impl.Crc16(s, start))
		}
	}
	numbers := extremeNumbers()
	for _, a := range numbers {
		all = append(all, impl.CodeName(a), impl.Decimal(a), impl.RootOf(a), impl.ListText([]int64{a}))
		for _, b := range numbers {
			all = append(all, impl.DivRound(a, b), impl.Blend(a, b, b, a, 5), impl.Blend(-1, a, 1, b, 0), impl.Blend(0, 1, 2, 3, a))
		}
	}
	return append(all, impl.ListText(nil), impl.ListText(numbers), impl.ListText(make([]int64, 100000)))
}

func TestBasicsReturnEqualResults(t *testing.T) {
	checkEqualResults(t, basicsResults)
}

func TestListTextLeavesItsArgument(t *testing.T) {
	for _, list := range [][]int64{{}, {3, 0, -1}, {1, impl.MaxValue + 1}, {math.MinInt64}, make([]int64, impl.MaxList), make([]int64, impl.MaxList+1)} {
		short, whole := withSpare(list)
		before := slices.Clone(whole)
		impl.ListText(short)
		checkEqual(t, "the list given to ListText", whole, before)
	}
}

func TestBasicsReturnNewMemory(t *testing.T) {
	words := impl.SplitWords("a b")
	words[0] = "changed"
	checkEqual(t, "SplitWords after a change of its last result", impl.SplitWords("a b"), []string{"a", "b"})

	list, _ := impl.ReadList("1,2")
	list[0] = 9
	again, _ := impl.ReadList("1,2")
	checkEqual(t, "ReadList after a change of its last result", again, []int64{1, 2})
}

// oddVectors returns lists that are vectors modulo some primes or none.
func oddVectors() [][]int64 {
	return [][]int64{nil, {}, {0}, {1}, {0, 1}, {1, 2, 250}, {-1}, {251}, {math.MinInt64, math.MaxInt64}, filled(impl.MaxList, 1), filled(impl.MaxList+1, 1), filled(100000, 0)}
}

// fieldResults calls all functions of chapter 2 with all kinds of arguments; it ends only if all of them return.
func fieldResults() []any {
	var all []any
	add := func(results ...any) { all = append(all, results...) }
	pair := func(first any, code int64) { add(first, code) }
	numbers := append(extremeNumbers(), 2, 3, 7, 127, 249, 250, 251, 252)
	for _, p := range append(numbers, notPrimes()...) {
		add(impl.ValidPrime(p))
		pair(impl.LeastGenerator(p))
		for _, a := range numbers {
			pair(impl.Reduce(a, p))
			pair(impl.InverseOf(a, p))
			pair(impl.ElementOrder(a, p))
			pair(impl.LegendreOf(a, p))
			pair(impl.SquareRootOf(a, p))
			for _, b := range numbers {
				pair(impl.PowerOf(a, b, p))
				pair(impl.LogOf(a, b, p))
			}
		}
		for _, v := range oddVectors() {
			add(impl.ValidVector(v, p))
			for _, w := range oddVectors() {
				pair(impl.AddVectors(v, w, p))
				pair(impl.DotOf(v, w, p))
			}
			pair(impl.ScaleVector(v, 1, p))
			pair(impl.ScaleVector(v, p, p))
		}
	}
	return all
}

func TestFieldReturnsEqualResults(t *testing.T) {
	t.Parallel()
	checkEqualResults(t, fieldResults)
}

func TestFieldLeavesItsArguments(t *testing.T) {
	for _, first := range oddVectors() {
		for _, second := range oddVectors() {
			for _, p := range []int64{0, 2, impl.MaxPrime} {
				a, wholeA := withSpare(first)
				b, wholeB := withSpare(second)
				beforeA, beforeB := slices.Clone(wholeA), slices.Clone(wholeB)
				impl.ValidVector(a, p)
				impl.AddVectors(a, b, p)
				impl.ScaleVector(a, 0, p)
				impl.DotOf(a, b, p)
				if !slices.Equal(wholeA, beforeA) || !slices.Equal(wholeB, beforeB) {
					t.Errorf("vectors of the lengths %d and %d modulo %d have been changed", len(a), len(b), p)
				}
			}
		}
	}
}

func TestFieldReturnsNewMemory(t *testing.T) {
	a, wholeA := withSpare([]int64{1, 2, 3})
	b, wholeB := withSpare([]int64{0, 0, 0})
	spoil := func(list []int64) {
		list = list[:cap(list)]
		for i := range list {
			list[i] = 99
		}
	}
	for range 2 {
		sum, code := impl.AddVectors(a, b, 7)
		checkVector(t, "AddVectors after a change of its last result", sum, code, []int64{1, 2, 3}, impl.OK)
		other, code := impl.AddVectors(b, a, 7)
		checkVector(t, "AddVectors after a change of its last result", other, code, []int64{1, 2, 3}, impl.OK)
		scaled, code := impl.ScaleVector(a, 1, 7)
		checkVector(t, "ScaleVector after a change of its last result", scaled, code, []int64{1, 2, 3}, impl.OK)
		spoil(sum)
		checkEqual(t, "a result after a change of the one before it", other, []int64{1, 2, 3})
		spoil(other)
		checkEqual(t, "a result after a change of the ones before it", scaled, []int64{1, 2, 3})
		spoil(scaled)
	}
	checkEqual(t, "the first argument", wholeA, []int64{1, 2, 3, 77, 78, 79})
	checkEqual(t, "the second argument", wholeB, []int64{0, 0, 0, 77, 78, 79})
}

// oddMatrices returns matrices that are valid or not.
func oddMatrices() []impl.Matrix {
	list := []impl.Matrix{
		matrixOf(2, 0, 0), matrixOf(3, 0, 2), matrixOf(3, 2, 0), matrixOf(3, 2, 2, 0, 1, 2, 0), matrixOf(3, 2, 2, 1, 2, 2, 1), matrixOf(3, 2, 1, 1, 2), matrixOf(5, 2, 2, 0, 4, 0, 3),
		filledMatrix(3, impl.MaxSide, impl.MaxSide, 2), filledMatrix(3, impl.MaxSide, 2, 1), filledMatrix(3, 2, impl.MaxSide, 1), unitOf(3, impl.MaxSide), unitOf(3, 2),
	}
	wrong := wrongMatrices()
	for _, what := range slices.Sorted(maps.Keys(wrong)) {
		list = append(list, wrong[what])
	}
	return list
}

// useMatrices calls all functions of one or two matrices.
func useMatrices(a, b impl.Matrix, v []int64, add func(results ...any)) {
	pair := func(first any, code int64) { add(first, code) }
	for _, call := range []func(a, b impl.Matrix) (impl.Matrix, int64){impl.AddMatrices, impl.Multiply, impl.StackRows, impl.JoinColumns} {
		pair(call(a, b))
	}
	add(impl.SameMatrix(a, b), impl.ValidMatrix(a), impl.MatrixText(a))
	pair(impl.ScaleMatrix(a, 1))
	pair(impl.ScaleMatrix(a, a.Rows))
	pair(impl.Transpose(a))
	pair(impl.ApplyMatrix(a, v))
	form, pivots, code := impl.ReducedForm(a)
	add(form, pivots, code)
	pair(impl.RankOf(a))
	pair(impl.InverseMatrix(a))
	pair(impl.DeterminantOf(a))
}

// matrixResults calls all functions of chapter 3 with all kinds of arguments; it ends only if all of them return.
func matrixResults() []any {
	var all []any
	add := func(results ...any) { all = append(all, results...) }
	for _, a := range oddMatrices() {
		for _, b := range oddMatrices() {
			useMatrices(a, b, b.Cells, add)
		}
		for _, v := range oddVectors() {
			useMatrices(a, a, v, add)
		}
	}
	numbers := append(extremeNumbers(), 2, 7, 31, 32, 33, 251)
	for _, p := range numbers {
		for _, n := range numbers {
			unit, code := impl.UnitMatrix(p, n)
			add(unit, code)
			zero, code := impl.ZeroMatrix(p, n, p)
			add(zero, code)
			zero, code = impl.ZeroMatrix(7, p, n)
			add(zero, code)
		}
	}
	for _, s := range append(oddTexts(), "5 2x2/1,2/3,4", "5 2x2/1,2/3,5", "2 0x0", "2 2x0/-/-") {
		m, ok := impl.ReadMatrix(s)
		add(m, ok)
	}
	return all
}

func TestMatricesReturnEqualResults(t *testing.T) {
	checkEqualResults(t, matrixResults)
}

func TestMatricesAreLeft(t *testing.T) {
	for _, first := range oddMatrices() {
		for _, second := range oddMatrices() {
			a, b := first, second
			var wholeA, wholeB []int64
			a.Cells, wholeA = withSpare(first.Cells)
			b.Cells, wholeB = withSpare(second.Cells)
			v, wholeV := withSpare([]int64{1, 2})
			beforeA, beforeB := slices.Clone(wholeA), slices.Clone(wholeB)
			useMatrices(a, b, b.Cells, func(...any) {})
			useMatrices(a, a, v, func(...any) {})
			if !slices.Equal(wholeA, beforeA) || !slices.Equal(wholeB, beforeB) {
				t.Errorf("%d and %d cells have been changed", len(first.Cells), len(second.Cells))
			}
			checkEqual(t, "a column", wholeV, []int64{1, 2, 77, 78, 79})
		}
	}
}

// matrixLists calls all functions of chapter 3 that return memory, and returns it.
func matrixLists(a, b impl.Matrix, v []int64) map[string][]int64 {
	lists := map[string][]int64{}
	keep := func(what string, m impl.Matrix) { lists[what] = m.Cells }
	zero, _ := impl.ZeroMatrix(5, 2, 2)
	keep("ZeroMatrix", zero)
	unit, _ := impl.UnitMatrix(5, 2)
	keep("UnitMatrix", unit)
	for what, call := range matrixPairs() {
		m, _ := call(a, b)
		keep(what, m)
		m, _ = call(b, a)
		keep(what+", exchanged", m)
	}
	scaled, _ := impl.ScaleMatrix(a, 1)
	keep("ScaleMatrix", scaled)
	transposed, _ := impl.Transpose(b)
	keep("Transpose", transposed)
	lists["ApplyMatrix"], _ = impl.ApplyMatrix(b, v)
	form, pivots, _ := impl.ReducedForm(b)
	keep("ReducedForm", form)
	lists["the pivots"] = pivots
	inverse, _ := impl.InverseMatrix(b)
	keep("InverseMatrix", inverse)
	read, _ := impl.ReadMatrix("5 2x2/1,2/3,4")
	keep("ReadMatrix", read)
	return lists
}

// TestMatricesReturnNewMemory takes arguments whose results equal them, where a function might return them themselves.
func TestMatricesReturnNewMemory(t *testing.T) {
	a, wholeA := withSpare([]int64{0, 0, 0, 0})
	b, wholeB := withSpare([]int64{1, 0, 0, 1})
	v, wholeV := withSpare([]int64{3, 4})
	call := func() map[string][]int64 { return matrixLists(matrixOf(5, 2, 2, a...), matrixOf(5, 2, 2, b...), v) }
	want := call()
	for what := range want {
		lists := call()
		// The result is spoilt up to its capacity; arguments and all other results must be left.
		spoilt := lists[what][:cap(lists[what])]
		for i := range spoilt {
			spoilt[i] = 99
		}
		delete(lists, what)
		for other, list := range lists {
			checkEqual(t, other+" after a change of "+what, list, want[other])
		}
		checkEqual(t, "the first matrix after a change of "+what, wholeA, []int64{0, 0, 0, 0, 77, 78, 79})
		checkEqual(t, "the second matrix after a change of "+what, wholeB, []int64{1, 0, 0, 1, 77, 78, 79})
		checkEqual(t, "the column after a change of "+what, wholeV, []int64{3, 4, 77, 78, 79})
		again := call()
		checkEqual(t, "a later "+what, again[what], want[what])
	}
}
