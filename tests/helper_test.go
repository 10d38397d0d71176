package tests

import (
	"math"
	"math/rand"
	"reflect"
	"slices"
	"testing"
)

// checkEqual compares deeply, but takes a nil slice and an empty slice as equal, as the document does.
func checkEqual[T any](t *testing.T, what string, got, want T) {
	t.Helper()
	if a, b := reflect.ValueOf(got), reflect.ValueOf(want); a.Kind() == reflect.Slice && a.Len() == 0 && b.Len() == 0 {
		return
	}
	if !reflect.DeepEqual(got, want) {
		t.Errorf("%s: got %#v, want %#v", what, got, want)
	}
}

// checkEqualResults makes the same calls twice.
func checkEqualResults(t *testing.T, call func() []any) {
	t.Helper()
	if first, second := call(), call(); !reflect.DeepEqual(first, second) {
		t.Error("the same calls have returned other results")
	}
}

// extremeNumbers returns numbers around all limits that chapter 1 names, and the ends of int64.
func extremeNumbers() []int64 {
	middles := []int64{0, 12, 65535, 1000000, 1000000000000, 999999999999999999, 3037000499, math.MaxInt32, math.MaxInt64 - 1}
	var list []int64
	for _, m := range middles {
		for d := int64(-1); d <= 1; d++ {
			list = append(list, m+d, -m-d)
		}
	}
	return append(list, math.MinInt64)
}

// withSpare returns a list of the same numbers with unused capacity, and the whole memory behind it.
func withSpare(list []int64) (short, whole []int64) {
	whole = append(slices.Clone(list), 77, 78, 79)
	return whole[:len(list)], whole
}

// allTexts returns all texts of at most so many bytes of an alphabet.
func allTexts(alphabet string, most int) []string {
	texts, last := []string{""}, []string{""}
	for range most {
		var next []string
		for _, s := range last {
			for i := range len(alphabet) {
				next = append(next, s+alphabet[i:i+1])
			}
		}
		texts = append(texts, next...)
		last = next
	}
	return texts
}

// changedText changes, adds or removes a byte of a text that is not empty.
func changedText(r *rand.Rand, text, alphabet string) string {
	place, changed := r.Intn(len(text)), string(alphabet[r.Intn(len(alphabet))])
	switch r.Intn(3) {
	case 0:
		return text[:place] + changed + text[place+1:]
	case 1:
		return text[:place] + changed + text[place:]
	default:
		return text[:place] + text[place+1:]
	}
}
