package tests

import (
	"fmt"
	"math/rand"
	"strings"
	"testing"

	"loop.example/g01005/impl"
)

// spaceTextOf is the text of a space by the document.
func spaceTextOf(v impl.Space) string {
	text := fmt.Sprintf("%d %d", v.Prime, v.Length)
	for _, row := range v.Basis {
		text += "/" + strings.ReplaceAll(strings.Trim(fmt.Sprint(row), "[]"), " ", ",")
	}
	return text
}

// checkSpaceText checks that a space has a text and is read back from it.
func checkSpaceText(t *testing.T, v impl.Space, text string) {
	t.Helper()
	checkEqual(t, "SpaceText", impl.SpaceText(v), text)
	back, ok := impl.ReadSpace(text)
	if !ok || !equalSpaces(back, v) {
		t.Errorf("ReadSpace(%q): got %v and %v", text, back, ok)
	}
}

// checkNoSpaceText checks that there is no space with a text.
func checkNoSpaceText(t *testing.T, text string) {
	t.Helper()
	if v, ok := impl.ReadSpace(text); ok || !equalSpaces(v, impl.Space{}) {
		t.Errorf("ReadSpace(%.60q): got %v and %v", text, v, ok)
	}
}

func TestSpaceTexts(t *testing.T) {
	r := rand.New(rand.NewSource(15))
	for _, p := range allPrimes() {
		for _, length := range someSides() {
			for _, dimension := range []int64{0, r.Int63n(length + 1), length} {
				v := randomSpace(r, p, length, dimension)
				checkSpaceText(t, v, spaceTextOf(v))
			}
		}
	}
	for _, s := range smallShapes() {
		for _, v := range smallSpaces(s[0], s[1]) {
			checkSpaceText(t, v, spaceTextOf(v))
		}
	}
	checkSpaceText(t, spaceOf(2, 0), "2 0")
	checkSpaceText(t, spaceOf(251, 32), "251 32")
	checkSpaceText(t, spaceOf(2, 2, []int64{1, 1}), "2 2/1,1")
	checkSpaceText(t, spaceOf(251, 3, []int64{1, 0, 250}, []int64{0, 1, 10}), "251 3/1,0,250/0,1,10")
}

func TestTextsOfNoSpace(t *testing.T) {
	texts := []string{
		"05 2/1,2", "5 02/1,2", "5 2/01,2", "5 2/1,02", "5 2/1,-0", "+5 2/1,2", "5 +2/1,2", "5 2/+1,2", "-5 2/1,2", "5 -2/1,2", "5 -0", "5 00", "5 2/1,2/00,0",
		" 5 2/1,2", "5  2/1,2", "5 2 /1,2", "5 2/ 1,2", "5 2/1, 2", "5 2/1,2 ", "5\t2/1,2", "5 2/1,2\n", "5 2 2/1,2", "5 2/1,2 5 2/1,2",
		"5 2/1,2/", "5 2/1,2/-", "5 2//1,2", "/5 2/1,2", "5/2/1,2", "5 2/1,2,", "5 2/,1,2", "5 2/1,,2", "5 2/1.2", "5 2;1,2", "5x2/1,2", "5 1x2/1,2", "5,2/1,2", "5-2/1,2",
		"5 2/1", "5 2/1/2", "5 2/1,2,3", "5 2/", "5 2/-", "5 2/-,-", "5 2/1,-", "5 2/--", "5 0/", "5 0/-", "5 0/0", "5 0//", "5 0/-/-", "5 1/-", "5 1/", "5 32/-", "5", "5 ", " 2", "2/1,2", "/1,2", "/", "//", "-", "- -",
		"5 2/2,1", "5 2/0,2", "5 2/0,0", "5 2/1,0/0,0", "5 2/0,0/0,1", "5 2/1,1/0,1", "5 2/1,0/1,1", "5 2/0,1/1,0", "5 2/1,2/1,2", "5 2/1,0/0,1/0,0", "5 2/1,0/0,1/1,1", "5 1/1/1", "2 2/1,0/0,1/1,1",
		"5 2/1,5", "5 2/1,-1", "5 2/-4,1", "5 2/6,2", "5 2/1,999999999999999999", "5 2/1,1000000000001", "5 2/1,9223372036854775808", "5 2/1,18446744073709551617",
		"4 2/1,2", "1 2/1,2", "0 0", "0 2", "1 1/1", "-2 0", "257 1/1", "256 0", "253 2/1,2", "9223372036854775807 0", "9223372036854775809 0", "a 2/1,2", "5 a/1,2", "5 2/a,2", "5 a", "a", "x 0", " 0", "0", " ",
		"3 33", "3 33/" + strings.Repeat("0,", 32) + "1", "3 -1", "3 -1/1", "3 4294967296", "3 9223372036854775807", "3 9223372036854775808", "3 18446744073709551616",
		"3 1" + strings.Repeat("/1", 10000), "3 2/" + strings.Repeat("0,", 10000) + "1", "3 1/" + strings.Repeat("0", 10000) + "1", strings.Repeat("3 1/1", 10000), "3 " + strings.Repeat("1", 10000), "3 0" + strings.Repeat("/", 10000), "3 0" + strings.Repeat("/-", 10000),
	}
	for _, text := range append(texts, oddTexts()...) {
		checkNoSpaceText(t, text)
	}
}

func TestAllShortSpaceTexts(t *testing.T) {
	t.Parallel()
	right := map[string]bool{}
	for length := range int64(impl.MaxSide + 1) {
		right[fmt.Sprintf("3 %d", length)] = true
		if length <= 2 {
			for _, v := range smallSpaces(3, length) {
				right[spaceTextOf(v)] = true
			}
		}
	}
	count := 0
	for _, tail := range allTexts("0123/,- ", 6) {
		if text := "3 " + tail; right[text] {
			v, ok := impl.ReadSpace(text)
			checkEqual(t, "the text that is read back", spaceTextOf(v), text)
			checkEqual(t, "whether "+text+" is read", ok, true)
			count++
		} else {
			checkNoSpaceText(t, text)
		}
	}
	// The lengths with digits that are tried, and of the lengths 1 and 2 the spaces of the dimension 1.
	checkEqual(t, "the number of texts that are read", count, 15+1+4)
}
