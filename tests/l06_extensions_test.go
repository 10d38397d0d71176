package tests

import (
	"fmt"
	"slices"
	"testing"

	"loop.example/g01005/impl"
)

// allOrders returns all orders of the elements, in lexicographic order.
func allOrders(size int64) [][]int64 {
	orders := [][]int64{{}}
	for range size {
		var next [][]int64
		for _, order := range orders {
			for a := range size {
				if !slices.Contains(order, a) {
					next = append(next, append(slices.Clone(order), a))
				}
			}
		}
		orders = next
	}
	return orders
}

// isExtension reports whether none of an order of all elements comes behind one that it is below.
func (r relation) isExtension(order []int64) bool {
	sorted := slices.Clone(order)
	slices.Sort(sorted)
	return slices.Equal(sorted, upTo(int64(len(r)))) && fitTogether(order, func(first, second int64) bool { return !r[second][first] })
}

func TestExtensionsOfSmallPosets(t *testing.T) {
	t.Parallel()
	for size := range int64(6) {
		orders := allOrders(size)
		for _, p := range smallPosets(size) {
			r := relationOf(p.Size, p.Covers)
			extensions := slices.DeleteFunc(slices.Clone(orders), func(order []int64) bool { return !r.isExtension(order) })
			count, code := impl.CountExtensions(p)
			checkNumber(t, fmt.Sprint("CountExtensions of ", p), count, code, int64(len(extensions)), impl.OK)
			first, code := impl.FirstExtension(p)
			checkVector(t, fmt.Sprint("FirstExtension of ", p), first, code, extensions[0], impl.OK)
		}
	}
}

// countDown counts the extensions of some elements from the last one on; known has what has been counted.
func (r relation) countDown(rest []int64, known map[string]int64) int64 {
	if len(rest) == 0 {
		return 1
	}
	if count, found := known[fmt.Sprint(rest)]; found {
		return count
	}
	count := int64(0)
	for _, last := range rest {
		isAbove := func(b int64) bool { return b != last && r[last][b] }
		if !slices.ContainsFunc(rest, isAbove) {
			count += r.countDown(without(rest, last), known)
		}
	}
	known[fmt.Sprint(rest)] = count
	return count
}

// firstOf goes through the orders of all elements until there is an extension, each beginning of which must respect the order.
func (r relation) firstOf(begin []int64) []int64 {
	if len(begin) == len(r) {
		return begin
	}
	for a := range int64(len(r)) {
		isMissing := func(b int64) bool { return r[b][a] && b != a && !slices.Contains(begin, b) }
		if slices.Contains(begin, a) || slices.ContainsFunc(upTo(int64(len(r))), isMissing) {
			continue
		}
		if found := r.firstOf(append(slices.Clone(begin), a)); found != nil {
			return found
		}
	}
	return nil
}

func TestExtensionsOfLargePosets(t *testing.T) {
	t.Parallel()
	for _, p := range somePosets(51, 0, 150) {
		r := relationOf(p.Size, p.Covers)
		count, code := impl.CountExtensions(p)
		checkNumber(t, fmt.Sprint("CountExtensions of ", p), count, code, r.countDown(upTo(p.Size), map[string]int64{}), impl.OK)
		first, code := impl.FirstExtension(p)
		checkVector(t, fmt.Sprint("FirstExtension of ", p), first, code, r.firstOf(nil), impl.OK)
	}
}

func TestFirstExtensions(t *testing.T) {
	check := func(p impl.Poset, want ...int64) {
		t.Helper()
		first, code := impl.FirstExtension(p)
		checkVector(t, fmt.Sprint("FirstExtension of ", p), first, code, want, impl.OK)
	}
	check(impl.Poset{})
	check(posetOf(1), 0)
	check(posetOf(12), upTo(12)...)
	check(posetOf(3, []int64{2, 0}), 1, 2, 0)
	check(posetOf(3, []int64{1, 0}, []int64{2, 1}), 2, 1, 0)
	check(posetOf(4, []int64{3, 0}), 1, 2, 3, 0)
	check(posetOf(4, []int64{2, 1}, []int64{3, 1}), 0, 2, 3, 1)
	check(posetOf(5, []int64{3, 0}, []int64{3, 1}, []int64{4, 0}), 2, 3, 1, 4, 0)
	check(namedPosets()["a chain in disorder"], 5, 11, 0, 3, 10, 1, 7, 2, 9, 4, 8, 6)
	check(namedPosets()["as many, downwards"], 6, 7, 8, 9, 10, 0, 1, 2, 3, 4, 5)
}

// TestExtensionsRespectTheOrder is the first part of the promise: it uses only results.
func TestExtensionsRespectTheOrder(t *testing.T) {
	t.Parallel()
	for _, p := range somePosets(52, 5, 300) {
		extension, code := impl.FirstExtension(p)
		if code != impl.OK || int64(len(extension)) != p.Size {
			t.Errorf("FirstExtension of %v: got %v with the code %d", p, extension, code)
		}
		for i, first := range extension {
			for _, second := range extension[i+1:] {
				if first == second || impl.IsBelow(p, second, first) {
					t.Errorf("FirstExtension of %v: %d comes before %d", p, first, second)
				}
			}
		}
	}
}

// moebiusOf adds up chains: those from a up to b with an odd number of steps are subtracted from those with an even number.
func (r relation) moebiusOf(a, b int64) int64 {
	if a == b {
		return 1
	}
	sum := int64(0)
	for x := range int64(len(r)) {
		if x != a && r[a][x] && r[x][b] {
			sum -= r.moebiusOf(x, b)
		}
	}
	return sum
}

func TestMoebiusNumbers(t *testing.T) {
	t.Parallel()
	for _, p := range somePosets(53, 5, 300) {
		r := relationOf(p.Size, p.Covers)
		for a := range p.Size {
			for b := range p.Size {
				want, wantCode := int64(0), int64(impl.ErrState)
				if r[a][b] {
					want, wantCode = r.moebiusOf(a, b), impl.OK
				}
				got, code := impl.MoebiusOf(p, a, b)
				checkNumber(t, fmt.Sprint("MoebiusOf ", a, " and ", b, " in ", p), got, code, want, wantCode)
			}
		}
	}
}

// TestMoebiusNumbersAddUp is the second part of the promise: it uses only results.
func TestMoebiusNumbersAddUp(t *testing.T) {
	t.Parallel()
	for _, p := range somePosets(54, 5, 300) {
		for _, pair := range allPairs(p.Size) {
			a, b := pair[0], pair[1]
			if a == b || !impl.IsBelow(p, a, b) {
				continue
			}
			sumUp, sumDown := int64(0), int64(0)
			for x := range p.Size {
				if impl.IsBelow(p, a, x) && impl.IsBelow(p, x, b) {
					first, firstCode := impl.MoebiusOf(p, a, x)
					second, secondCode := impl.MoebiusOf(p, x, b)
					checkEqual(t, "the codes", []int64{firstCode, secondCode}, []int64{impl.OK, impl.OK})
					sumUp, sumDown = sumUp+first, sumDown+second
				}
			}
			checkEqual(t, fmt.Sprint("the sums between ", a, " and ", b, " in ", p), []int64{sumUp, sumDown}, []int64{0, 0})
		}
	}
}

// numberMoebius is that of a number: 0 if a square other than 1 divides it, and otherwise 1 or -1, as the number of its primes is even or odd.
func numberMoebius(n int64) int64 {
	result := int64(1)
	for prime := int64(2); n > 1; prime++ {
		if n%(prime*prime) == 0 {
			return 0
		}
		if n%prime == 0 {
			n /= prime
			result = -result
		}
	}
	return result
}

func TestKnownMoebiusNumbers(t *testing.T) {
	check := func(what string, a, b, want int64) {
		t.Helper()
		got, code := impl.MoebiusOf(namedPosets()[what], a, b)
		checkNumber(t, fmt.Sprint("MoebiusOf ", a, " and ", b, " in ", what), got, code, want, impl.OK)
	}
	check("an element", 0, 0, 1)
	check("a chain", 0, 0, 1)
	check("a chain", 0, 1, -1)
	check("a chain", 0, 2, 0)
	check("a chain", 0, 11, 0)
	check("a chain downwards", 11, 10, -1)
	check("ten between", 0, 11, 9)
	check("ten between", 0, 5, -1)
	check("as many, in layers", 0, 11, 12)
	check("as many, in layers", 0, 8, -6)
	check("as many, in layers", 1, 8, 3)
	numbers := dividers()
	for i, n := range numbers {
		for k, m := range numbers {
			if m%n == 0 {
				check("divisibility", int64(i), int64(k), numberMoebius(m/n))
			}
		}
	}
	for a := range int64(8) {
		for b := range int64(8) {
			if a&b == a {
				check("parts of a set", a, b, []int64{1, -1, -1, 1, -1, 1, 1, -1}[a^b])
			}
		}
	}
}

// TestDualNumbers compares posets with their duals.
func TestDualNumbers(t *testing.T) {
	t.Parallel()
	for _, p := range somePosets(55, 4, 100) {
		dual, _ := impl.DualPoset(p)
		for name, call := range posetNumbers() {
			first, code := call(p)
			second, secondCode := call(dual)
			checkNumber(t, fmt.Sprint(name, " of the dual of ", p), second, secondCode, first, code)
		}
		width, _ := impl.WidthOf(p)
		other, _ := impl.WidthOf(dual)
		checkEqual(t, fmt.Sprint("WidthOf the dual of ", p), other, width)
		for _, pair := range allPairs(p.Size) {
			checkEqual(t, "IsBelow in the dual", impl.IsBelow(dual, pair[1], pair[0]), impl.IsBelow(p, pair[0], pair[1]))
			first, code := impl.MoebiusOf(p, pair[0], pair[1])
			second, secondCode := impl.MoebiusOf(dual, pair[1], pair[0])
			checkNumber(t, fmt.Sprint("MoebiusOf in the dual of ", p), second, secondCode, first, code)
		}
	}
}
