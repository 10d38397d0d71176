package impl

import (
	"cmp"
	"math/bits"
	"strconv"
	"strings"
)

// Constants of chapter 1.
const (
	OK           = 0
	ErrInvalid   = 1
	ErrRange     = 2
	ErrNotFound  = 3
	ErrExists    = 4
	ErrFull      = 5
	ErrState     = 6
	ErrOrder     = 7
	ErrSyntax    = 8
	ErrFormat    = 9
	ErrChecksum  = 10
	ErrTruncated = 11
	MaxName      = 10
	MaxList      = 64
	MaxBudget    = 20000
	MaxValue     = 1000000000000
	CrcStart     = 65535
)

const (
	maxRead       = 999999999999999999 // the greatest number of 18 digits
	maxCrc        = 65535
	crcPolynomial = 4129
	maxBlend      = 1000000
	emptyListText = "-"
)

// CodeName returns the name of an error code.
func CodeName(code int64) string {
	names := [...]string{
		OK:           "ok",
		ErrInvalid:   "invalid",
		ErrRange:     "range",
		ErrNotFound:  "not-found",
		ErrExists:    "exists",
		ErrFull:      "full",
		ErrState:     "state",
		ErrOrder:     "order",
		ErrSyntax:    "syntax",
		ErrFormat:    "format",
		ErrChecksum:  "checksum",
		ErrTruncated: "truncated",
	}
	if !within(code, OK, ErrTruncated) {
		return ""
	}
	return names[code]
}

// IsName reports whether s is a name.
func IsName(s string) bool {
	if !within(len(s), 1, MaxName) || !isSmallLetter(s[0]) {
		return false
	}
	for i := range len(s) {
		if !isSmallLetter(s[i]) && !isDigit(s[i]) {
			return false
		}
	}
	return true
}

// Decimal returns a number in decimal.
func Decimal(n int64) string { return strconv.FormatInt(n, 10) }

// ReadDecimal returns the number with a decimal form.
func ReadDecimal(s string) (int64, bool) {
	n, err := strconv.ParseInt(s, 10, 64)
	// ParseInt also accepts a plus sign, leading zeros and -0, which Decimal never writes.
	if err != nil || !within(n, -maxRead, maxRead) || Decimal(n) != s {
		return 0, false
	}
	return n, true
}

// SplitWords divides a line at blanks.
func SplitWords(s string) []string {
	var words []string
	// strings.Fields is not used, as it would also divide at tabs and line ends.
	for _, part := range strings.Split(s, " ") {
		if part != "" {
			words = append(words, part)
		}
	}
	return words
}

// ListText returns a list of numbers as text.
func ListText(list []int64) string {
	if len(list) == 0 {
		return emptyListText
	}
	if len(list) > MaxList {
		return ""
	}
	parts := make([]string, len(list))
	for i, n := range list {
		if !within(n, -MaxValue, MaxValue) {
			return ""
		}
		parts[i] = Decimal(n)
	}
	return strings.Join(parts, ",")
}

// ReadList returns the list with a text.
func ReadList(s string) ([]int64, bool) {
	if s == emptyListText {
		return nil, true
	}
	if strings.Count(s, ",") >= MaxList {
		return nil, false
	}
	var list []int64
	for _, part := range strings.Split(s, ",") {
		n, ok := ReadDecimal(part)
		if !ok || !within(n, -MaxValue, MaxValue) {
			return nil, false
		}
		list = append(list, n)
	}
	return list, true
}

// Crc16 returns the check value of bytes.
func Crc16(s string, start int64) int64 {
	if !within(start, 0, maxCrc) {
		return 0
	}
	value := start
	for i := range len(s) {
		value ^= int64(s[i]) * 256
		for range 8 {
			value *= 2
			if value > maxCrc {
				value = value&maxCrc ^ crcPolynomial
			}
		}
	}
	return value
}

// RootOf returns the square root, rounded down.
func RootOf(n int64) int64 {
	if n <= 0 {
		return 0
	}
	// A root has at most 32 bits, so its square fits into a uint64, though not always into an int64.
	square, root := uint64(n), uint64(0)
	for place := (bits.Len64(square) - 1) / 2; place >= 0; place-- {
		next := root | 1<<place
		if next*next <= square {
			root = next
		}
	}
	return int64(root)
}

// DivRound returns the nearest quotient.
func DivRound(a, b int64) int64 {
	if b == 0 || !within(a, -MaxValue, MaxValue) || !within(b, -MaxValue, MaxValue) {
		return 0
	}
	return nearest(a, b)
}

// Blend returns a number on a line through two points.
func Blend(x0, y0, x1, y1, x int64) int64 {
	for _, n := range [...]int64{x0, y0, x1, y1} {
		if !within(n, -maxBlend, maxBlend) {
			return 0
		}
	}
	if x1 <= x0 {
		return y0
	}
	// Between x0 and x1 the formula is exact at both ends, so x is moved there first.
	inside := least(greatest(x, x0), x1)
	return y0 + nearest((y1-y0)*(inside-x0), x1-x0)
}

// nearest is DivRound for all numbers with b other than 0.
func nearest(a, b int64) int64 {
	quotient, rest := a/b, a%b
	// Doubling the rest could overflow, so it is compared with what it lacks to b.
	if magnitude(rest) < magnitude(b)-magnitude(rest) {
		return quotient
	}
	if (a < 0) == (b < 0) {
		return quotient + 1
	}
	return quotient - 1
}

// magnitude is unsigned because the least int64 has no opposite among them.
func magnitude(n int64) uint64 {
	if n < 0 {
		return -uint64(n)
	}
	return uint64(n)
}

// within reports whether n is from low to high, both included.
func within[T cmp.Ordered](n, low, high T) bool { return low <= n && n <= high }

// least returns the lesser one of two values.
func least[T cmp.Ordered](a, b T) T {
	if b < a {
		return b
	}
	return a
}

// greatest returns the greater one of two values.
func greatest[T cmp.Ordered](a, b T) T {
	if b > a {
		return b
	}
	return a
}

func isSmallLetter(c byte) bool { return within(c, 'a', 'z') }

func isDigit(c byte) bool { return within(c, '0', '9') }
