package tests

import (
	"math"
	"reflect"
	"slices"
	"strings"
	"testing"

	"loop.example/g01005/impl"
)

// oddTexts returns texts that no function expects.
func oddTexts() []string {
	return []string{"", " ", "-", ",", "--", "\x00", "\xff\xfe", "é", "0", "-0", "a b", "1,2", strings.Repeat(" ", 100000), strings.Repeat("9", 100000), strings.Repeat("0,", 100000), strings.Repeat("a", 100000)}
}

// basicsResults calls all functions of chapter 1 with all kinds of arguments; it ends only if all of them return.
func basicsResults() []any {
	var all []any
	for _, s := range oddTexts() {
		n, isNumber := impl.ReadDecimal(s)
		list, isList := impl.ReadList(s)
		all = append(all, impl.IsName(s), n, isNumber, impl.SplitWords(s), list, isList)
		for _, start := range []int64{math.MinInt64, -1, 0, 65535, 65536, math.MaxInt64} {
			all = append(all, impl.Crc16(s, start))
		}
	}
	numbers := extremeNumbers()
	for _, a := range numbers {
		all = append(all, impl.CodeName(a), impl.Decimal(a), impl.RootOf(a), impl.ListText([]int64{a}))
		for _, b := range numbers {
			all = append(all, impl.DivRound(a, b), impl.Blend(a, b, b, a, 5), impl.Blend(-1, a, 1, b, 0), impl.Blend(0, 1, 2, 3, a))
		}
	}
	return append(all, impl.ListText(nil), impl.ListText(numbers), impl.ListText(make([]int64, 100000)))
}

func TestBasicsReturnEqualResults(t *testing.T) {
	if first, second := basicsResults(), basicsResults(); !reflect.DeepEqual(first, second) {
		t.Error("the same calls have returned other results")
	}
}

func TestListTextLeavesItsArgument(t *testing.T) {
	for _, list := range [][]int64{{}, {3, 0, -1}, {1, impl.MaxValue + 1}, {math.MinInt64}, make([]int64, impl.MaxList), make([]int64, impl.MaxList+1)} {
		short, whole := withSpare(list)
		before := slices.Clone(whole)
		impl.ListText(short)
		checkEqual(t, "the list given to ListText", whole, before)
	}
}

func TestBasicsReturnNewMemory(t *testing.T) {
	words := impl.SplitWords("a b")
	words[0] = "changed"
	checkEqual(t, "SplitWords after a change of its last result", impl.SplitWords("a b"), []string{"a", "b"})

	list, _ := impl.ReadList("1,2")
	list[0] = 9
	again, _ := impl.ReadList("1,2")
	checkEqual(t, "ReadList after a change of its last result", again, []int64{1, 2})
}

// oddVectors returns lists that are vectors modulo some primes or none.
func oddVectors() [][]int64 {
	return [][]int64{nil, {}, {0}, {1}, {0, 1}, {1, 2, 250}, {-1}, {251}, {math.MinInt64, math.MaxInt64}, filled(impl.MaxList, 1), filled(impl.MaxList+1, 1), filled(100000, 0)}
}

// fieldResults calls all functions of chapter 2 with all kinds of arguments; it ends only if all of them return.
func fieldResults() []any {
	var all []any
	add := func(results ...any) { all = append(all, results...) }
	pair := func(first any, code int64) { add(first, code) }
	numbers := append(extremeNumbers(), 2, 3, 7, 127, 249, 250, 251, 252)
	for _, p := range append(numbers, notPrimes()...) {
		add(impl.ValidPrime(p))
		pair(impl.LeastGenerator(p))
		for _, a := range numbers {
			pair(impl.Reduce(a, p))
			pair(impl.InverseOf(a, p))
			pair(impl.ElementOrder(a, p))
			pair(impl.LegendreOf(a, p))
			pair(impl.SquareRootOf(a, p))
			for _, b := range numbers {
				pair(impl.PowerOf(a, b, p))
				pair(impl.LogOf(a, b, p))
			}
		}
		for _, v := range oddVectors() {
			add(impl.ValidVector(v, p))
			for _, w := range oddVectors() {
				pair(impl.AddVectors(v, w, p))
				pair(impl.DotOf(v, w, p))
			}
			pair(impl.ScaleVector(v, 1, p))
			pair(impl.ScaleVector(v, p, p))
		}
	}
	return all
}

func TestFieldReturnsEqualResults(t *testing.T) {
	if first, second := fieldResults(), fieldResults(); !reflect.DeepEqual(first, second) {
		t.Error("the same calls have returned other results")
	}
}

func TestFieldLeavesItsArguments(t *testing.T) {
	for _, first := range oddVectors() {
		for _, second := range oddVectors() {
			for _, p := range []int64{0, 2, impl.MaxPrime} {
				a, wholeA := withSpare(first)
				b, wholeB := withSpare(second)
				beforeA, beforeB := slices.Clone(wholeA), slices.Clone(wholeB)
				impl.ValidVector(a, p)
				impl.AddVectors(a, b, p)
				impl.ScaleVector(a, 0, p)
				impl.DotOf(a, b, p)
				if !slices.Equal(wholeA, beforeA) || !slices.Equal(wholeB, beforeB) {
					t.Errorf("vectors of the lengths %d and %d modulo %d have been changed", len(a), len(b), p)
				}
			}
		}
	}
}

func TestFieldReturnsNewMemory(t *testing.T) {
	a, wholeA := withSpare([]int64{1, 2, 3})
	b, wholeB := withSpare([]int64{0, 0, 0})
	spoil := func(list []int64) {
		list = list[:cap(list)]
		for i := range list {
			list[i] = 99
		}
	}
	for range 2 {
		sum, code := impl.AddVectors(a, b, 7)
		checkVector(t, "AddVectors after a change of its last result", sum, code, []int64{1, 2, 3}, impl.OK)
		other, code := impl.AddVectors(b, a, 7)
		checkVector(t, "AddVectors after a change of its last result", other, code, []int64{1, 2, 3}, impl.OK)
		scaled, code := impl.ScaleVector(a, 1, 7)
		checkVector(t, "ScaleVector after a change of its last result", scaled, code, []int64{1, 2, 3}, impl.OK)
		spoil(sum)
		checkEqual(t, "a result after a change of the one before it", other, []int64{1, 2, 3})
		spoil(other)
		checkEqual(t, "a result after a change of the ones before it", scaled, []int64{1, 2, 3})
		spoil(scaled)
	}
	checkEqual(t, "the first argument", wholeA, []int64{1, 2, 3, 77, 78, 79})
	checkEqual(t, "the second argument", wholeB, []int64{0, 0, 0, 77, 78, 79})
}
