package tests

import (
	"math"
	"math/big"
	"math/rand"
	"slices"
	"testing"

	"loop.example/g01005/impl"
)

// allPrimes returns the primes of chapter 2, found with a sieve.
func allPrimes() []int64 {
	var primes []int64
	var composite [impl.MaxPrime + 1]bool
	for n := int64(2); n <= impl.MaxPrime; n++ {
		if !composite[n] {
			primes = append(primes, n)
		}
		for m := n * n; m <= impl.MaxPrime; m += n {
			composite[m] = true
		}
	}
	return primes
}

// notPrimes returns numbers that are no primes, or greater than MaxPrime.
func notPrimes() []int64 {
	return []int64{math.MinInt64, math.MinInt64 + 1, -251, -7, -2, -1, 0, 1, 4, 9, 15, 49, 91, 169, 221, 247, 249, 250, 252, 253, 256, 257, 65537, 1<<32 + 7, 1<<61 - 1, math.MaxInt64}
}

// outsideNumbers returns numbers that are no numbers modulo p.
func outsideNumbers(p int64) []int64 {
	return []int64{-1, p, p + 1, -p, 1<<32 + 1, math.MinInt64, math.MaxInt64}
}

// checkNumber checks a result with a code; with a code other than OK, the number wanted is 0.
func checkNumber(t *testing.T, what string, got, code, want, wantCode int64) {
	t.Helper()
	if got != want || code != wantCode {
		t.Errorf("%s: got %d with the code %q, want %d with %q", what, got, impl.CodeName(code), want, impl.CodeName(wantCode))
	}
}

// checkVector is checkNumber for vectors.
func checkVector(t *testing.T, what string, got []int64, code int64, want []int64, wantCode int64) {
	t.Helper()
	if !slices.Equal(got, want) || code != wantCode {
		t.Errorf("%s: got %v with the code %q, want %v with %q", what, got, impl.CodeName(code), want, impl.CodeName(wantCode))
	}
}

// randomVector returns a vector modulo p.
func randomVector(r *rand.Rand, p int64, length int) []int64 {
	v := make([]int64, length)
	for i := range v {
		v[i] = r.Int63n(p)
	}
	return v
}

// filled returns a list of one number again and again.
func filled(length int, n int64) []int64 {
	list := make([]int64, length)
	for i := range list {
		list[i] = n
	}
	return list
}

func TestValidPrime(t *testing.T) {
	primes := allPrimes()
	checkEqual(t, "the number of primes", len(primes), 54)
	for n := int64(-300); n <= 70000; n++ {
		if got, want := impl.ValidPrime(n), slices.Contains(primes, n); got != want {
			t.Errorf("ValidPrime(%d): got %v, want %v", n, got, want)
		}
	}
	for _, n := range append(notPrimes(), math.MaxInt32, math.MaxInt64-24) {
		if impl.ValidPrime(n) {
			t.Errorf("ValidPrime(%d): got true", n)
		}
	}
}

func TestReduce(t *testing.T) {
	for _, p := range allPrimes() {
		numbers := append(extremeNumbers(), p-1, p, p+1, 2*p, 1-p, -p, -p-1, -2*p)
		for _, a := range numbers {
			got, code := impl.Reduce(a, p)
			want := new(big.Int).Mod(big.NewInt(a), big.NewInt(p)).Int64()
			checkNumber(t, "Reduce", got, code, want, impl.OK)
		}
	}
}

func TestInverses(t *testing.T) {
	for _, p := range allPrimes() {
		for a := int64(1); a < p; a++ {
			inverse, code := impl.InverseOf(a, p)
			checkNumber(t, "the product with the inverse", inverse*a%p, code, 1, impl.OK)
			if inverse < 1 || inverse >= p {
				t.Errorf("InverseOf(%d, %d): got %d", a, p, inverse)
			}
			again, code := impl.InverseOf(inverse, p)
			checkNumber(t, "the inverse of the inverse", again, code, a, impl.OK)
		}
	}
	inverse, code := impl.InverseOf(3, 7)
	checkNumber(t, "the document's example", inverse, code, 5, impl.OK)
}

func TestPowersWithSmallExponents(t *testing.T) {
	t.Parallel()
	for _, p := range allPrimes() {
		for a := range p {
			power := int64(1)
			for n := range p + 2 {
				got, code := impl.PowerOf(a, n, p)
				checkNumber(t, "PowerOf", got, code, power, impl.OK)
				if a != 0 {
					inverse, code := impl.PowerOf(a, -n, p)
					checkNumber(t, "the product with the power of the opposite exponent", inverse*power%p, code, 1, impl.OK)
				}
				power = power * a % p
			}
		}
	}
}

func TestPowersWithGreatExponents(t *testing.T) {
	exponents := []int64{1<<31 - 1, 1 << 31, 1 << 32, 1<<39 + 12345, impl.MaxValue - 1, impl.MaxValue}
	for _, p := range allPrimes() {
		for a := range p {
			for _, n := range exponents {
				want := new(big.Int).Exp(big.NewInt(a), big.NewInt(n), big.NewInt(p)).Int64()
				got, code := impl.PowerOf(a, n, p)
				checkNumber(t, "PowerOf", got, code, want, impl.OK)
				if a == 0 {
					continue
				}
				inverse, code := impl.PowerOf(a, -n, p)
				checkNumber(t, "the product with the power of the opposite exponent", inverse*want%p, code, 1, impl.OK)
			}
		}
	}
}

func TestPowersOfZero(t *testing.T) {
	for _, p := range []int64{2, 7, impl.MaxPrime} {
		got, code := impl.PowerOf(0, 0, p)
		checkNumber(t, "0 with the exponent 0", got, code, 1, impl.OK)
		for _, n := range []int64{1, 2, p - 1, p, impl.MaxValue} {
			got, code = impl.PowerOf(0, n, p)
			checkNumber(t, "0 with a positive exponent", got, code, 0, impl.OK)
			got, code = impl.PowerOf(0, -n, p)
			checkNumber(t, "0 with a negative exponent", got, code, 0, impl.ErrState)
		}
	}
}

func TestOrdersAndLogarithms(t *testing.T) {
	t.Parallel()
	for _, p := range allPrimes() {
		for base := int64(1); base < p; base++ {
			// The exponents are found by going through the powers, up to the first 1.
			logs, order, power := map[int64]int64{}, int64(0), int64(1)
			for order == 0 || power != 1 {
				logs[power] = order
				power = power * base % p
				order++
			}
			got, code := impl.ElementOrder(base, p)
			checkNumber(t, "ElementOrder", got, code, order, impl.OK)
			for a := int64(1); a < p; a++ {
				got, code := impl.LogOf(a, base, p)
				want, found := logs[a]
				if !found {
					checkNumber(t, "LogOf where there is none", got, code, 0, impl.ErrNotFound)
					continue
				}
				checkNumber(t, "LogOf", got, code, want, impl.OK)
				back, code := impl.PowerOf(base, got, p)
				checkNumber(t, "the power with the logarithm", back, code, a, impl.OK)
			}
		}
	}
}

func TestLeastGenerator(t *testing.T) {
	known := map[int64]int64{2: 1, 3: 2, 5: 2, 7: 3, 23: 5, 41: 6, 71: 7, 191: 19, 193: 5, 241: 7, 251: 6}
	for _, p := range allPrimes() {
		generator, code := impl.LeastGenerator(p)
		if want, ok := known[p]; ok {
			checkNumber(t, "LeastGenerator", generator, code, want, impl.OK)
		}
		order, code := impl.ElementOrder(generator, p)
		checkNumber(t, "the order of the generator", order, code, p-1, impl.OK)
		for n := int64(1); n < generator; n++ {
			if order, _ := impl.ElementOrder(n, p); order == p-1 {
				t.Errorf("LeastGenerator(%d): got %d, but %d is less", p, generator, n)
			}
		}
	}
}

func TestSquares(t *testing.T) {
	for _, p := range allPrimes() {
		roots := map[int64]int64{}
		for n := p - 1; n >= 0; n-- {
			roots[n*n%p] = n
		}
		for a := range p {
			root, rootCode := impl.SquareRootOf(a, p)
			sign, code := impl.LegendreOf(a, p)
			want, found := roots[a]
			if !found {
				checkNumber(t, "SquareRootOf of no square", root, rootCode, 0, impl.ErrNotFound)
				checkNumber(t, "LegendreOf of no square", sign, code, -1, impl.OK)
				continue
			}
			checkNumber(t, "SquareRootOf", root, rootCode, want, impl.OK)
			checkNumber(t, "LegendreOf of a square", sign, code, min(a, 1), impl.OK)
		}
	}
}

func TestNumbersThatAreNotModuloAPrime(t *testing.T) {
	calls := map[string]func(a, p int64) (int64, int64){
		"InverseOf":       impl.InverseOf,
		"PowerOf":         func(a, p int64) (int64, int64) { return impl.PowerOf(a, 3, p) },
		"PowerOf, minus":  func(a, p int64) (int64, int64) { return impl.PowerOf(a, -3, p) },
		"ElementOrder":    impl.ElementOrder,
		"LogOf":           func(a, p int64) (int64, int64) { return impl.LogOf(a, 1, p) },
		"LogOf, the base": func(base, p int64) (int64, int64) { return impl.LogOf(1, base, p) },
		// The ErrRange of one number comes before the ErrState of the other one.
		"LogOf, base 0":          func(a, p int64) (int64, int64) { return impl.LogOf(a, 0, p) },
		"LogOf of 0, the base":   func(base, p int64) (int64, int64) { return impl.LogOf(0, base, p) },
		"LegendreOf":             impl.LegendreOf,
		"SquareRootOf":           impl.SquareRootOf,
		"PowerOf, exponent 0":    func(a, p int64) (int64, int64) { return impl.PowerOf(a, 0, p) },
		"PowerOf, over MaxValue": func(a, p int64) (int64, int64) { return impl.PowerOf(a, impl.MaxValue+1, p) },
	}
	for what, call := range calls {
		for _, p := range []int64{2, 3, 7, impl.MaxPrime} {
			for _, a := range outsideNumbers(p) {
				got, code := call(a, p)
				checkNumber(t, what+" outside", got, code, 0, impl.ErrRange)
			}
		}
		for _, p := range notPrimes() {
			for _, a := range []int64{0, 1, 3, -1, p - 1, p, math.MinInt64, math.MaxInt64} {
				got, code := call(a, p)
				checkNumber(t, what+" modulo no prime", got, code, 0, impl.ErrInvalid)
			}
		}
	}
	for _, p := range notPrimes() {
		got, code := impl.Reduce(5, p)
		checkNumber(t, "Reduce modulo no prime", got, code, 0, impl.ErrInvalid)
		got, code = impl.LeastGenerator(p)
		checkNumber(t, "LeastGenerator of no prime", got, code, 0, impl.ErrInvalid)
	}
}

func TestNumbersWithoutAResult(t *testing.T) {
	for _, p := range []int64{2, 3, 7, impl.MaxPrime} {
		got, code := impl.InverseOf(0, p)
		checkNumber(t, "InverseOf of 0", got, code, 0, impl.ErrState)
		got, code = impl.ElementOrder(0, p)
		checkNumber(t, "ElementOrder of 0", got, code, 0, impl.ErrState)
		for n := range p {
			got, code = impl.LogOf(0, n, p)
			checkNumber(t, "LogOf of 0", got, code, 0, impl.ErrState)
			got, code = impl.LogOf(n, 0, p)
			checkNumber(t, "LogOf with the base 0", got, code, 0, impl.ErrState)
		}
		for _, n := range []int64{impl.MaxValue + 1, -impl.MaxValue - 1, math.MinInt64, math.MaxInt64} {
			for a := range p {
				got, code = impl.PowerOf(a, n, p)
				checkNumber(t, "PowerOf with an exponent that is too great", got, code, 0, impl.ErrRange)
			}
		}
	}
}

func TestPrimeTwo(t *testing.T) {
	got, code := impl.InverseOf(1, 2)
	checkNumber(t, "the inverse of 1", got, code, 1, impl.OK)
	got, code = impl.PowerOf(1, -impl.MaxValue, 2)
	checkNumber(t, "the power of 1", got, code, 1, impl.OK)
	got, code = impl.ElementOrder(1, 2)
	checkNumber(t, "the order of 1", got, code, 1, impl.OK)
	got, code = impl.LogOf(1, 1, 2)
	checkNumber(t, "the logarithm of 1", got, code, 0, impl.OK)
	got, code = impl.LegendreOf(1, 2)
	checkNumber(t, "LegendreOf of 1", got, code, 1, impl.OK)
	got, code = impl.LegendreOf(0, 2)
	checkNumber(t, "LegendreOf of 0", got, code, 0, impl.OK)
	got, code = impl.SquareRootOf(1, 2)
	checkNumber(t, "the root of 1", got, code, 1, impl.OK)
	sum, code := impl.AddVectors([]int64{0, 1, 1}, []int64{0, 0, 1}, 2)
	checkVector(t, "a sum", sum, code, []int64{0, 1, 0}, impl.OK)
}

func TestValidVector(t *testing.T) {
	for _, p := range []int64{2, 3, 7, impl.MaxPrime} {
		checkEqual(t, "no list", impl.ValidVector(nil, p), true)
		checkEqual(t, "an empty list", impl.ValidVector([]int64{}, p), true)
		checkEqual(t, "the least and the greatest number", impl.ValidVector([]int64{0, p - 1}, p), true)
		checkEqual(t, "MaxList numbers", impl.ValidVector(filled(impl.MaxList, p-1), p), true)
		checkEqual(t, "one more", impl.ValidVector(filled(impl.MaxList+1, 0), p), false)
		for _, a := range outsideNumbers(p) {
			for place := range 3 {
				v := []int64{0, 1, 0}
				v[place] = a
				checkEqual(t, "a number outside", impl.ValidVector(v, p), false)
			}
		}
	}
	for _, p := range notPrimes() {
		checkEqual(t, "an empty list modulo no prime", impl.ValidVector(nil, p), false)
		checkEqual(t, "a list modulo no prime", impl.ValidVector([]int64{0}, p), false)
	}
}

func TestVectors(t *testing.T) {
	r := rand.New(rand.NewSource(2))
	for _, p := range allPrimes() {
		for _, length := range []int{0, 1, 2, 5, impl.MaxList - 1, impl.MaxList} {
			a, b, c := randomVector(r, p, length), randomVector(r, p, length), r.Int63n(p)
			var sum, scaled []int64
			dot := int64(0)
			for i := range length {
				sum = append(sum, (a[i]+b[i])%p)
				scaled = append(scaled, a[i]*c%p)
				dot = (dot + a[i]*b[i]) % p
			}
			got, code := impl.AddVectors(a, b, p)
			checkVector(t, "AddVectors", got, code, sum, impl.OK)
			got, code = impl.ScaleVector(a, c, p)
			checkVector(t, "ScaleVector", got, code, scaled, impl.OK)
			number, code := impl.DotOf(a, b, p)
			checkNumber(t, "DotOf", number, code, dot, impl.OK)
		}
	}
	full := filled(impl.MaxList, impl.MaxPrime-1)
	number, code := impl.DotOf(full, full, impl.MaxPrime)
	checkNumber(t, "DotOf of the greatest numbers", number, code, impl.MaxList, impl.OK)
}

// checkPairCodes checks both functions of two vectors.
func checkPairCodes(t *testing.T, what string, a, b []int64, p, want int64) {
	t.Helper()
	sum, code := impl.AddVectors(a, b, p)
	checkVector(t, "AddVectors with "+what, sum, code, nil, want)
	dot, code := impl.DotOf(a, b, p)
	checkNumber(t, "DotOf with "+what, dot, code, 0, want)
}

func TestVectorsWithoutAResult(t *testing.T) {
	checkPairCodes(t, "other lengths", []int64{1}, nil, 3, impl.ErrState)
	checkPairCodes(t, "other lengths", nil, []int64{1}, 3, impl.ErrState)
	checkPairCodes(t, "other lengths", filled(impl.MaxList, 1), filled(impl.MaxList-1, 1), 3, impl.ErrState)
	// A vector that is not valid comes before lengths that differ.
	for _, wrong := range [][]int64{{3}, {-1}, {0, 3}, {math.MinInt64}, {math.MaxInt64}, filled(impl.MaxList+1, 0)} {
		for _, v := range [][]int64{nil, {0}, {1, 2}, wrong} {
			checkPairCodes(t, "a wrong second vector", v, wrong, 3, impl.ErrInvalid)
			checkPairCodes(t, "a wrong first vector", wrong, v, 3, impl.ErrInvalid)
		}
		for _, c := range []int64{0, 1, 3, -1} {
			got, code := impl.ScaleVector(wrong, c, 3)
			checkVector(t, "ScaleVector of a wrong vector", got, code, nil, impl.ErrInvalid)
		}
	}
	for _, p := range notPrimes() {
		checkPairCodes(t, "no prime", nil, nil, p, impl.ErrInvalid)
		checkPairCodes(t, "no prime", []int64{1}, nil, p, impl.ErrInvalid)
		for _, c := range []int64{0, 1, -1} {
			got, code := impl.ScaleVector([]int64{0}, c, p)
			checkVector(t, "ScaleVector modulo no prime", got, code, nil, impl.ErrInvalid)
		}
	}
	for _, p := range []int64{2, 3, impl.MaxPrime} {
		for _, c := range outsideNumbers(p) {
			got, code := impl.ScaleVector([]int64{1}, c, p)
			checkVector(t, "ScaleVector with a number outside", got, code, nil, impl.ErrRange)
			got, code = impl.ScaleVector(nil, c, p)
			checkVector(t, "ScaleVector of no numbers with a number outside", got, code, nil, impl.ErrRange)
		}
	}
}
