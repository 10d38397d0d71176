package tests

import (
	"math/rand"
	"slices"
	"strings"
	"testing"

	"loop.example/g01005/impl"
)

// checkPosetText checks that a poset has a text and is read back from it.
func checkPosetText(t *testing.T, p impl.Poset, text string) {
	t.Helper()
	checkEqual(t, "PosetText", impl.PosetText(p), text)
	back, ok := impl.ReadPoset(text)
	if !ok || !equalPosets(back, p) {
		t.Errorf("ReadPoset(%q): got %v and %v", text, back, ok)
	}
}

// checkNoPosetText checks that there is no poset with a text.
func checkNoPosetText(t *testing.T, text string) {
	t.Helper()
	if p, ok := impl.ReadPoset(text); ok || !equalPosets(p, impl.Poset{}) {
		t.Errorf("ReadPoset(%.60q): got %v and %v", text, p, ok)
	}
}

func TestPosetTexts(t *testing.T) {
	t.Parallel()
	for _, p := range somePosets(61, 5, 500) {
		checkPosetText(t, p, posetTextOf(p))
	}
	checkPosetText(t, impl.Poset{}, "0")
	checkPosetText(t, posetOf(1), "1")
	checkPosetText(t, posetOf(12), "12")
	checkPosetText(t, posetOf(2, []int64{0, 1}), "2 0<1")
	checkPosetText(t, posetOf(2, []int64{1, 0}), "2 1<0")
	checkPosetText(t, posetOf(3, []int64{0, 1}, []int64{0, 2}), "3 0<1 0<2")
	checkPosetText(t, posetOf(12, []int64{2, 10}, []int64{2, 11}, []int64{9, 0}, []int64{10, 1}, []int64{11, 8}), "12 2<10 2<11 9<0 10<1 11<8")
	checkPosetText(t, layersOf(1, 2, 2), "5 0<1 0<2 1<3 1<4 2<3 2<4")
}

func TestTextsOfNoPoset(t *testing.T) {
	full := posetTextOf(posetOf(12, layersOf(5, 6).Covers...))
	texts := []string{
		"13", "-1", "-0", "+1", "00", "01", "012", "1.0", "0x1", "1e0", "a", "<", "-", "--", ",", "1,", "1/", "12<", "0<1", "<2", "999999999999999999", "9223372036854775807", "9223372036854775808", "18446744073709551616", "18446744073709551618", "4294967296", "-9223372036854775808",
		" 1", "1 ", "  1", "1  ", " ", "  ", "\t1", "1\t", "1\n", "\n1", "2\r\n", "2 0<1 ", " 2 0<1", "2  0<1", "2 0<1  ", "3 0<1  0<2", "2\t0<1", "2 0 <1", "2 0< 1", "2 0 < 1", "2 0<1\n", "3 0<1\n0<2", "2 \x000<1",
		"2 0", "2 <", "2 0<", "2 <1", "2 <0<1", "2 0<1<", "2 0<<1", "2 0<1<2", "3 0<1<2", "3 0<1<", "2 0<1 <", "2 < 0<1", "2 0-1", "2 0,1", "2 0>1", "2 0≤1", "2 0=1", "2 01", "2 0.1", "2/0<1", "2,0<1", "2;0<1", "20<1", "2 0<1,", "2 (0<1)", "3 0<1,0<2", "3 0<1/0<2", "3 0<10<2", "2 -", "0 -", "1 0<0 -", "2 a<1", "2 0<b", "2 0<1a",
		"2 00<1", "2 0<01", "02 0<1", "2 +0<1", "2 0<+1", "2 -0<1", "2 -1<0", "2 0<-1", "12 02<10", "12 2<010", "2 0<1.0", "2 0<0x1",
		"0 0<0", "0 0<1", "1 0<1", "1 1<0", "2 0<2", "2 2<0", "2 1<2", "12 0<12", "12 12<0", "13 0<1", "13 0<12", "2 0<18446744073709551617", "2 0<4294967297", "2 18446744073709551616<1", "12 0<13", "12 0<999999999999999999",
		"1 0<0", "2 1<1", "3 0<1 1<1", "3 0<0 0<1", "12 11<11",
		"3 0<2 0<1", "3 1<0 0<2", "3 1<2 0<1", "3 2<0 1<0", "4 2<1 0<3", "12 10<11 2<3", "12 0<10 0<2",
		"2 0<1 0<1", "3 0<1 0<1 0<2", "3 0<1 0<2 0<2", "3 0<1 0<2 0<1",
		"3 0<1 0<2 1<2", "4 0<1 0<3 1<2 2<3", "3 0<2 1<0 1<2",
		"2 0<1 1<0", "3 0<1 1<2 2<0", "4 0<1 1<2 2<1", "12 0<1 1<2 2<3 3<4 4<5 5<6 6<7 7<8 8<9 9<10 10<11 11<0",
		full + " 4<11", strings.Replace(full, " 1<5", " 0<11 1<5", 1), full + " 5<11", posetTextOf(layersOf(6, 6)), posetTextOf(layersOf(5, 7)), full + full[2:],
		"12" + strings.Repeat(" 0<1", 100000), "12" + strings.Repeat(" ", 100000), "2 0<1" + strings.Repeat(" ", 100000), strings.Repeat("0<", 100000) + "1", "2 " + strings.Repeat("<", 100000), "2 0<" + strings.Repeat("1", 100000), strings.Repeat("0 ", 100000), strings.Repeat("12 0<1", 100000), "2 0<1" + strings.Repeat(" 1<0", 100000),
	}
	for _, text := range texts {
		checkNoPosetText(t, text)
	}
	for _, text := range oddTexts() {
		if text != "0" {
			checkNoPosetText(t, text)
		}
	}
	if p, ok := impl.ReadPoset(full); !ok || len(p.Covers) != impl.MaxCovers {
		t.Error("30 pairs are not read")
	}
}

// TestAllShortPosetTexts reads texts that are too short for two pairs.
func TestAllShortPosetTexts(t *testing.T) {
	t.Parallel()
	right := map[string]impl.Poset{}
	for size := range int64(impl.MaxElements + 1) {
		right[posetTextOf(posetOf(size))] = posetOf(size)
		for _, pair := range allPairs(size) {
			if pair[0] != pair[1] {
				right[posetTextOf(posetOf(size, pair))] = posetOf(size, pair)
			}
		}
	}
	count := 0
	for _, text := range allTexts("0123< ", 7) {
		if p, found := right[text]; found {
			checkPosetText(t, p, text)
			count++
		} else {
			checkNoPosetText(t, text)
		}
	}
	// Sizes without a pair are 0 to 3 and 10 to 12. With one pair, 2 has two and 3 has six; 10 to 12 have 12 of the elements 0 to 3 each,
	// and those of one of these and of 10, or of 10 and 11, are 8 for 11 and 16 for 12.
	checkEqual(t, "the number of texts that are read", count, 4+3+2+6+3*12+8+16)
}

// TestPairsInAnyOrder reads all short lists of pairs; only that of a poset in order is a text.
func TestPairsInAnyOrder(t *testing.T) {
	t.Parallel()
	count := 0
	for _, pairs := range listsOf(allPairs(4), 3) {
		if p := posetOf(4, pairs...); isPoset(p) {
			checkPosetText(t, p, posetTextOf(p))
			count++
		} else {
			checkNoPosetText(t, posetTextOf(p))
		}
	}
	checkEqual(t, "the number of posets with up to three pairs", count, len(slices.DeleteFunc(smallPosets(4), func(p impl.Poset) bool { return len(p.Covers) > 3 })))
}

// TestChangedPosetTexts changes a byte; what is read then must have the changed text.
func TestChangedPosetTexts(t *testing.T) {
	t.Parallel()
	r := rand.New(rand.NewSource(62))
	var texts []string
	for _, p := range somePosets(63, 0, 50) {
		texts = append(texts, posetTextOf(p))
	}
	read := 0
	for range 20000 {
		text := changedText(r, texts[r.Intn(len(texts))], "0123456789< -")
		p, ok := impl.ReadPoset(text)
		if !ok {
			checkNoPosetText(t, text)
			continue
		}
		checkEqual(t, "the text of what is read", posetTextOf(p), text)
		checkEqual(t, "whether it is a poset", isPoset(p), true)
		read++
	}
	checkEqual(t, "whether some are read", read > 100, true)
}
