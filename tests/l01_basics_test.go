package tests

import (
	"math"
	"math/big"
	"math/rand"
	"regexp"
	"slices"
	"strings"
	"testing"

	"loop.example/g01005/impl"
)

func TestCodeName(t *testing.T) {
	want := []string{"ok", "invalid", "range", "not-found", "exists", "full", "state", "order", "syntax", "format", "checksum", "truncated"}
	codes := []int64{impl.OK, impl.ErrInvalid, impl.ErrRange, impl.ErrNotFound, impl.ErrExists, impl.ErrFull, impl.ErrState, impl.ErrOrder, impl.ErrSyntax, impl.ErrFormat, impl.ErrChecksum, impl.ErrTruncated}
	for i, name := range want {
		checkEqual(t, "the number of "+name, codes[i], int64(i))
		checkEqual(t, "CodeName", impl.CodeName(int64(i)), name)
	}
	for _, code := range []int64{-1, 12, 256, 1 << 32, math.MinInt64, math.MaxInt64} {
		checkEqual(t, "CodeName of no code", impl.CodeName(code), "")
	}
}

func TestIsName(t *testing.T) {
	isName := regexp.MustCompile(`^[a-z][a-z0-9]{0,9}$`)
	for c := range 256 {
		b := string([]byte{byte(c)})
		for _, s := range []string{b, b + "a", "a" + b, "a" + b + "9", "abcdefghi" + b, "abcdefghij" + b} {
			if got, want := impl.IsName(s), isName.MatchString(s); got != want {
				t.Errorf("IsName(%q): got %v, want %v", s, got, want)
			}
		}
	}
	checkEqual(t, "IsName of the empty text", impl.IsName(""), false)
	checkEqual(t, "IsName with a letter of two bytes", impl.IsName("aé"), false)
}

func TestDecimalIsReadBack(t *testing.T) {
	for _, n := range extremeNumbers() {
		s := impl.Decimal(n)
		checkEqual(t, "Decimal", s, big.NewInt(n).String())
		got, ok := impl.ReadDecimal(s)
		if fits := len(strings.TrimPrefix(s, "-")) <= 18; !fits {
			checkEqual(t, "ReadDecimal of more than 18 digits", got, 0)
			checkEqual(t, "ReadDecimal of more than 18 digits", ok, false)
		} else if got != n || !ok {
			t.Errorf("ReadDecimal(%q): got %d, %v", s, got, ok)
		}
	}
}

func TestReadDecimalOfOtherTexts(t *testing.T) {
	texts := append(allTexts("-+019 x", 5), "1_0", "0x1", "1.0", "1e3", "٣", "\xff", "1\n", "\x001", "1000000000000000000", "-1000000000000000000", "000000000000000000001", strings.Repeat("9", 5000))
	isDecimal := regexp.MustCompile(`^(0|-?[1-9][0-9]{0,17})$`)
	for _, s := range texts {
		n, ok := impl.ReadDecimal(s)
		if want := isDecimal.MatchString(s); ok != want {
			t.Errorf("ReadDecimal(%q): got %v, want %v", s, ok, want)
		}
		if ok && impl.Decimal(n) != s || !ok && n != 0 {
			t.Errorf("ReadDecimal(%q): got the number %d", s, n)
		}
	}
}

func TestSplitWords(t *testing.T) {
	cases := []struct {
		line string
		want []string
	}{
		{"", nil},
		{" ", nil},
		{"    ", nil},
		{"a", []string{"a"}},
		{" a  bc ", []string{"a", "bc"}},
		{"a b c", []string{"a", "b", "c"}},
		{"a\tb c\n", []string{"a\tb", "c\n"}},
		{"\r\v\f", []string{"\r\v\f"}},
		{"a\u00a0b \u3000", []string{"a\u00a0b", "\u3000"}},
		{"\xff \x00", []string{"\xff", "\x00"}},
	}
	for _, c := range cases {
		checkEqual(t, "SplitWords", impl.SplitWords(c.line), c.want)
	}
	for _, s := range allTexts(" ab", 6) {
		words := impl.SplitWords(s)
		if slices.Contains(words, "") || strings.Join(words, "") != strings.ReplaceAll(s, " ", "") {
			t.Errorf("SplitWords(%q): got %q", s, words)
		}
	}
}

func TestListTextIsReadBack(t *testing.T) {
	full := make([]int64, impl.MaxList)
	for i := range full {
		full[i] = int64(i) - 30
	}
	cases := []struct {
		list []int64
		want string
	}{
		{nil, "-"},
		{[]int64{}, "-"},
		{[]int64{0}, "0"},
		{[]int64{-7}, "-7"},
		{[]int64{3, 0, -1}, "3,0,-1"},
		{[]int64{impl.MaxValue, -impl.MaxValue}, "1000000000000,-1000000000000"},
		{full[:3], "-30,-29,-28"},
		{make([]int64, impl.MaxList), "0" + strings.Repeat(",0", impl.MaxList-1)},
	}
	for _, c := range cases {
		checkEqual(t, "ListText", impl.ListText(c.list), c.want)
		list, ok := impl.ReadList(c.want)
		checkEqual(t, "ReadList of "+c.want, list, c.list)
		checkEqual(t, "ReadList of "+c.want, ok, true)
	}
	list, ok := impl.ReadList(impl.ListText(full))
	checkEqual(t, "the longest list", list, full)
	checkEqual(t, "the longest list", ok, true)
}

func TestListTextOfOtherLists(t *testing.T) {
	lists := [][]int64{make([]int64, impl.MaxList+1), make([]int64, 1000), {impl.MaxValue + 1}, {-impl.MaxValue - 1}, {1, 2, math.MaxInt64}, {math.MinInt64, 0}}
	for _, list := range lists {
		checkEqual(t, "ListText", impl.ListText(list), "")
	}
}

func TestReadListOfOtherTexts(t *testing.T) {
	texts := append(allTexts("-+01, ", 6), "1,2,", ",1,2", "1;2", "1,x", "-\n", "\xff", "1000000000001", "-1000000000001", "1,1000000000001", "999999999999999999", "9223372036854775808", "0"+strings.Repeat(",0", impl.MaxList), "-"+strings.Repeat(",-", 9), strings.Repeat(",", 100000))
	isList := regexp.MustCompile(`^(-|(0|-?[1-9][0-9]{0,11})(,(0|-?[1-9][0-9]{0,11})){0,63})$`)
	for _, s := range texts {
		list, ok := impl.ReadList(s)
		if want := isList.MatchString(s); ok != want {
			t.Errorf("ReadList(%.40q): got %v, want %v", s, ok, want)
		}
		if ok && impl.ListText(list) != s || !ok && list != nil {
			t.Errorf("ReadList(%.40q): got the list %v", s, list)
		}
	}
}

func TestCrc16(t *testing.T) {
	cases := []struct {
		s     string
		start int64
		want  int64
	}{
		{"123456789", impl.CrcStart, 10673},
		{"123456789", 0, 12739},
		{"", impl.CrcStart, 65535},
		{"", 0, 0},
		{"", 4711, 4711},
		{"\x00", 0, 0},
		{"\x01", 0, 4129},
		{"\xff", 0, 7920},
		{"\x00", 32768, 37256},
		{"", -1, 0},
		{"", 65536, 0},
		{"a", -1, 0},
		{"a", 65536, 0},
		{"a", math.MinInt64, 0},
		{"a", math.MaxInt64, 0},
	}
	for _, c := range cases {
		checkEqual(t, "Crc16 of "+c.s, impl.Crc16(c.s, c.start), c.want)
	}
}

func TestCrc16InParts(t *testing.T) {
	var all []byte
	for c := range 256 {
		all = append(all, byte(c))
	}
	whole := string(all)
	for cut := range len(whole) {
		front := impl.Crc16(whole[:cut], impl.CrcStart)
		if front < 0 || front > 65535 {
			t.Fatalf("Crc16 of %d bytes is %d", cut, front)
		}
		checkEqual(t, "Crc16 in two parts", impl.Crc16(whole[cut:], front), impl.Crc16(whole, impl.CrcStart))
	}
}

func TestRootOf(t *testing.T) {
	for n := range int64(70000) {
		if r := impl.RootOf(n); r < 0 || r*r > n || (r+1)*(r+1) <= n {
			t.Fatalf("RootOf(%d) is %d", n, r)
		}
	}
	for _, r := range []int64{2, 255, 65536, 94906265, 94906266, 94906267, 1 << 31, 3037000498, 3037000499} {
		checkEqual(t, "RootOf of a square", impl.RootOf(r*r), r)
		checkEqual(t, "RootOf below a square", impl.RootOf(r*r-1), r-1)
		checkEqual(t, "RootOf above a square", impl.RootOf(r*r+1), r)
	}
	checkEqual(t, "RootOf of the greatest number", impl.RootOf(math.MaxInt64), 3037000499)
	for _, n := range []int64{-1, -4, math.MinInt64} {
		checkEqual(t, "RootOf of a negative number", impl.RootOf(n), 0)
	}
}

// nearestOf is the rule of DivRound in whole numbers of any size, for b other than 0.
func nearestOf(a, b *big.Int) *big.Int {
	twice := new(big.Int).Abs(a)
	twice.Add(twice.Lsh(twice, 1), new(big.Int).Abs(b))
	q := twice.Quo(twice, new(big.Int).Lsh(new(big.Int).Abs(b), 1))
	if a.Sign()*b.Sign() < 0 {
		q.Neg(q)
	}
	return q
}

func checkDivRound(t *testing.T, a, b int64) {
	t.Helper()
	want := int64(0)
	if b != 0 && a >= -impl.MaxValue && a <= impl.MaxValue && b >= -impl.MaxValue && b <= impl.MaxValue {
		want = nearestOf(big.NewInt(a), big.NewInt(b)).Int64()
	}
	if got := impl.DivRound(a, b); got != want {
		t.Errorf("DivRound(%d, %d): got %d, want %d", a, b, got, want)
	}
}

func TestDivRound(t *testing.T) {
	for a := int64(-40); a <= 40; a++ {
		for b := int64(-40); b <= 40; b++ {
			checkDivRound(t, a, b)
		}
	}
	for _, a := range extremeNumbers() {
		for _, b := range extremeNumbers() {
			checkDivRound(t, a, b)
		}
	}
	examples := [][3]int64{{-5, 2, -3}, {5, 2, 3}, {5, -2, -3}, {-5, -2, 3}, {1, 2, 1}, {-1, 2, -1}, {499999999999, impl.MaxValue, 0}, {500000000000, impl.MaxValue, 1}, {-500000000000, impl.MaxValue, -1}, {7, 0, 0}, {impl.MaxValue, 1, impl.MaxValue}, {impl.MaxValue + 1, 1, 0}, {1, impl.MaxValue + 1, 0}, {-impl.MaxValue - 1, 1, 0}, {1, -impl.MaxValue - 1, 0}}
	for _, e := range examples {
		checkEqual(t, "DivRound", impl.DivRound(e[0], e[1]), e[2])
	}
}

// blendOf is the rule of Blend, computed with numbers of any size.
func blendOf(x0, y0, x1, y1, x int64) int64 {
	for _, n := range []int64{x0, y0, x1, y1} {
		if n < -1000000 || n > 1000000 {
			return 0
		}
	}
	switch {
	case x <= x0 || x1 <= x0:
		return y0
	case x >= x1:
		return y1
	}
	product := new(big.Int).Mul(big.NewInt(y1-y0), big.NewInt(x-x0))
	return y0 + nearestOf(product, big.NewInt(x1-x0)).Int64()
}

func checkBlend(t *testing.T, x0, y0, x1, y1, x int64) {
	t.Helper()
	if got, want := impl.Blend(x0, y0, x1, y1, x), blendOf(x0, y0, x1, y1, x); got != want {
		t.Errorf("Blend(%d, %d, %d, %d, %d): got %d, want %d", x0, y0, x1, y1, x, got, want)
	}
}

func TestBlend(t *testing.T) {
	for x0 := int64(-3); x0 <= 3; x0++ {
		for x1 := int64(-4); x1 <= 4; x1++ {
			for x := int64(-6); x <= 6; x++ {
				for _, y := range []int64{-7, -1, 0, 2, 9} {
					checkBlend(t, x0, y, x1, 3, x)
				}
			}
		}
	}
	random := rand.New(rand.NewSource(1))
	for range 20000 {
		n := func() int64 { return random.Int63n(2000001) - 1000000 }
		checkBlend(t, n(), n(), n(), n(), n())
	}
	checkEqual(t, "Blend, as in the document", impl.Blend(0, 10, 4, 20, 1), 13)
	checkEqual(t, "Blend of half a step down", impl.Blend(0, 0, 4, -6, 1), -2)
}

func TestBlendAtItsLimits(t *testing.T) {
	const most = 1000000
	ends := []int64{-most - 1, -most, 0, most, most + 1, math.MinInt64, math.MaxInt64}
	for _, x0 := range ends {
		for _, y0 := range ends {
			for _, x1 := range ends {
				for _, y1 := range ends {
					for _, x := range append(ends, -most+1, most-1, 1) {
						checkBlend(t, x0, y0, x1, y1, x)
					}
				}
			}
		}
	}
	checkEqual(t, "Blend far behind the second point", impl.Blend(0, 1, 1, 2, math.MaxInt64), 2)
	checkEqual(t, "Blend far before the first point", impl.Blend(0, 1, 1, 2, math.MinInt64), 1)
	checkEqual(t, "Blend over the longest line", impl.Blend(-most, -most, most, most, most-1), most-1)
}
