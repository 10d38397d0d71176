package tests

import (
	"fmt"
	"math/rand"
	"slices"
	"strings"
	"testing"

	"loop.example/g01005/impl"
)

// simplexText returns the text of a list of vertices by the document.
func simplexText(s []int64) string {
	return strings.ReplaceAll(strings.Trim(fmt.Sprint(s), "[]"), " ", ",")
}

// complexTextOf returns the text of a complex by the document.
func complexTextOf(c impl.Complex) string {
	var parts []string
	for _, s := range c.Simplices {
		isInOther := func(other []int64) bool { return len(other) > len(s) && isFaceOf(s, other) }
		if !slices.ContainsFunc(c.Simplices, isInOther) {
			parts = append(parts, simplexText(s))
		}
	}
	if parts == nil {
		return "-"
	}
	return strings.Join(parts, "/")
}

// checkComplexText checks that a complex has a text and is read back from it.
func checkComplexText(t *testing.T, c impl.Complex, text string) {
	t.Helper()
	checkEqual(t, "ComplexText", impl.ComplexText(c), text)
	back, ok := impl.ReadComplex(text)
	if !ok || !equalComplexes(back, c) {
		t.Errorf("ReadComplex(%q): got %v and %v", text, back, ok)
	}
}

// checkNoComplexText checks that there is no complex with a text.
func checkNoComplexText(t *testing.T, text string) {
	t.Helper()
	if c, ok := impl.ReadComplex(text); ok || !equalComplexes(c, impl.Complex{}) {
		t.Errorf("ReadComplex(%.60q): got %v and %v", text, c, ok)
	}
}

func TestComplexTexts(t *testing.T) {
	t.Parallel()
	for _, c := range smallComplexes(5) {
		checkComplexText(t, c, complexTextOf(c))
	}
	for _, c := range namedComplexes() {
		checkComplexText(t, c, complexTextOf(c))
	}
	r := rand.New(rand.NewSource(23))
	for range 500 {
		c := randomComplex(r)
		checkComplexText(t, c, complexTextOf(c))
	}
	checkComplexText(t, impl.Complex{}, "-")
	checkComplexText(t, complexOf([]int64{0}), "0")
	checkComplexText(t, complexOf([]int64{9}), "9")
	checkComplexText(t, complexOf([]int64{0}, []int64{1}, []int64{2}, []int64{0, 1}, []int64{0, 2}, []int64{1, 2}), "0,1/0,2/1,2")
	checkComplexText(t, complexOf(closureOf([][]int64{{2, 9}, {0, 3}, {7}, {1, 4, 5, 6}, {0, 1, 2}})...), "7/0,3/2,9/0,1,2/1,4,5,6")
	checkComplexText(t, namedComplexes()["all vertices"], "0/1/2/3/4/5/6/7/8/9")
}

func TestTextsOfNoComplex(t *testing.T) {
	many := namedComplexes()["as many as can be"]
	texts := []string{
		"0/0,1", "0,1/0", "1/0,1", "0,1/1", "0,1/0,1,2", "0,1/0,2/0,1,2", "0/1,2/0,1,2,3", "0,1,2/0,1,2,3", "0,1,2,3/0,1,2", "9/0,1/0,1,9",
		"1/0", "2/1/0", "0,2/0,1", "1,2/0,1", "0,1/2", "0,1,2/3,4", "0,1,2,3/4", "0/2/1", "0,1/0,3/0,2", "3,4,5/0,1,2",
		"0/0", "0,1/0,1", "0/1/1", "0,1,2/0,1,2", "9/9",
		"1,0", "0,0", "0,1,1", "2,1,0", "0,2,1", "0,1,2,3,4", "0,1,2,3,3", "0,1,2,3,4,5,6,7,8,9", "10", "0,10", "-1", "-1,0", "9,10", "0/10", "00", "01", "0,01", "00,1", "-0", "-0,1", "+0", "0,+1", "0x1", "1e0",
		" 0", "0 ", "0, 1", "0 ,1", "0,1 ", "0 /1", "0/ 1", "0 1", "0\t/1", "0\n", "\n0", "0/1\n", "0,1\r\n",
		"/", "//", "0/", "/0", "0//1", "/0/1", "0/1/", "0,1/", "/0,1", ",", "0,", ",0", "0,,1", "0,/1", "0/,1", ",/,", "0,1//2,3",
		"-/-", "-/0", "0/-", "0/-/1", "-,0", "0,-", "-,-", "--", "- ", " -", "-/", "/-", "-0/1", "0-1", "0/1-", "–",
		"0.1", "0;1", "0:1", "0|1", "0\\1", "{0}", "[0,1]", "(0)", "0,1/0,2/1,2;", "a", "0,a", "a/0", "0/a", "٠", "０",
		"999999999999999999", "0,1000000000000", "1000000000001", "9223372036854775807", "9223372036854775808", "18446744073709551616", "18446744073709551617", "64", "65", "256", "65536", "4294967296", "-9223372036854775808",
		complexTextOf(many) + "/9", "0/" + complexTextOf(many), complexTextOf(many) + "/8,9", complexTextOf(many) + "/" + complexTextOf(many),
		"0,1,2,3/4,5,6,7/0,1,8,9/2,3,8,9", complexTextOf(complexOf(allSimplices(10)[:49]...)), complexTextOf(complexOf(allSimplices(10)...)),
		strings.Repeat("0/", 100000) + "0", strings.Repeat("/", 100000), strings.Repeat("0/1/", 100000), "0" + strings.Repeat("/-", 100000), strings.Repeat("0,1,2,3/", 48) + "0,1,2,3", strings.Repeat("-", 100000),
	}
	for _, text := range texts {
		checkNoComplexText(t, text)
	}
	for _, text := range oddTexts() {
		if text != "-" && text != "0" && text != "1,2" {
			checkNoComplexText(t, text)
		}
	}
}

func TestAllShortComplexTexts(t *testing.T) {
	t.Parallel()
	right := map[string]bool{}
	for _, c := range smallComplexes(3) {
		right[complexTextOf(c)] = true
	}
	count := 0
	for _, text := range allTexts("012/,- ", 6) {
		if right[text] {
			c, ok := impl.ReadComplex(text)
			checkEqual(t, "the text that is read back", complexTextOf(c), text)
			checkEqual(t, "whether "+text+" is read", ok, true)
			count++
		} else {
			checkNoComplexText(t, text)
		}
	}
	// Of the 19 complexes, three with two edges and the triangle without its inside have longer texts, of 7 and 11 bytes.
	checkEqual(t, "the number of texts that are read", count, 15)
}

// TestFacetsInAnyOrder reads all lists of up to four simplices; only that of all facets in order is a text.
func TestFacetsInAnyOrder(t *testing.T) {
	t.Parallel()
	for _, list := range listsOf(allSimplices(3), 4)[1:] {
		var parts []string
		for _, s := range list {
			parts = append(parts, simplexText(s))
		}
		text := strings.Join(parts, "/")
		if c := complexOf(closureOf(list)...); complexTextOf(c) == text {
			checkComplexText(t, c, text)
		} else {
			checkNoComplexText(t, text)
		}
	}
}

// TestChangedComplexTexts changes a byte; what is read then must have the changed text.
func TestChangedComplexTexts(t *testing.T) {
	t.Parallel()
	r := rand.New(rand.NewSource(24))
	var texts []string
	named := namedComplexes()
	for _, what := range sortedNames(named) {
		texts = append(texts, complexTextOf(named[what]))
	}
	read := 0
	for range 20000 {
		text := changedText(r, texts[r.Intn(len(texts))], "0123456789,/- ")
		c, ok := impl.ReadComplex(text)
		if !ok {
			checkNoComplexText(t, text)
			continue
		}
		checkEqual(t, "the text of what is read", complexTextOf(c), text)
		checkEqual(t, "whether it is a complex", isComplex(c.Simplices), true)
		read++
	}
	checkEqual(t, "whether some are read", read > 100, true)
}
