package tests

import (
	"math"
	"reflect"
	"slices"
	"strings"
	"testing"

	"loop.example/g01005/impl"
)

// oddTexts returns texts that no function expects.
func oddTexts() []string {
	return []string{"", " ", "-", ",", "--", "\x00", "\xff\xfe", "é", "0", "-0", "a b", "1,2", strings.Repeat(" ", 100000), strings.Repeat("9", 100000), strings.Repeat("0,", 100000), strings.Repeat("a", 100000)}
}

// basicsResults calls all functions of chapter 1 with all kinds of arguments; it ends only if all of them return.
func basicsResults() []any {
	var all []any
	for _, s := range oddTexts() {
		n, isNumber := impl.ReadDecimal(s)
		list, isList := impl.ReadList(s)
		all = append(all, impl.IsName(s), n, isNumber, impl.SplitWords(s), list, isList)
		for _, start := range []int64{math.MinInt64, -1, 0, 65535, 65536, math.MaxInt64} {
			all = append(all, impl.Crc16(s, start))
		}
	}
	numbers := extremeNumbers()
	for _, a := range numbers {
		all = append(all, impl.CodeName(a), impl.Decimal(a), impl.RootOf(a), impl.ListText([]int64{a}))
		for _, b := range numbers {
			all = append(all, impl.DivRound(a, b), impl.Blend(a, b, b, a, 5), impl.Blend(-1, a, 1, b, 0), impl.Blend(0, 1, 2, 3, a))
		}
	}
	return append(all, impl.ListText(nil), impl.ListText(numbers), impl.ListText(make([]int64, 100000)))
}

func TestBasicsReturnEqualResults(t *testing.T) {
	if first, second := basicsResults(), basicsResults(); !reflect.DeepEqual(first, second) {
		t.Error("the same calls have returned other results")
	}
}

func TestListTextLeavesItsArgument(t *testing.T) {
	for _, list := range [][]int64{{}, {3, 0, -1}, {1, impl.MaxValue + 1}, {math.MinInt64}, make([]int64, impl.MaxList), make([]int64, impl.MaxList+1)} {
		short, whole := withSpare(list)
		before := slices.Clone(whole)
		impl.ListText(short)
		checkEqual(t, "the list given to ListText", whole, before)
	}
}

func TestBasicsReturnNewMemory(t *testing.T) {
	words := impl.SplitWords("a b")
	words[0] = "changed"
	checkEqual(t, "SplitWords after a change of its last result", impl.SplitWords("a b"), []string{"a", "b"})

	list, _ := impl.ReadList("1,2")
	list[0] = 9
	again, _ := impl.ReadList("1,2")
	checkEqual(t, "ReadList after a change of its last result", again, []int64{1, 2})
}
