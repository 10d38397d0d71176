package tests

import (
	"fmt"
	"math"
	"math/rand"
	"slices"
	"testing"

	"loop.example/g01005/impl"
)

// spaceOf returns a space, which may be one that is not valid.
func spaceOf(p, length int64, basis ...[]int64) impl.Space {
	return impl.Space{Prime: p, Length: length, Basis: basis}
}

// rowsOf returns the rows of a matrix, each one in memory of its own.
func rowsOf(m impl.Matrix) [][]int64 {
	var rows [][]int64
	for i := range m.Rows {
		rows = append(rows, slices.Clone(rowOf(m, i)))
	}
	return rows
}

// fullSpace returns the space of all vectors.
func fullSpace(p, length int64) impl.Space { return spaceOf(p, length, rowsOf(unitOf(p, length))...) }

// randomSpace returns a valid space of a dimension.
func randomSpace(r *rand.Rand, p, length, dimension int64) impl.Space {
	form, _ := randomReduced(r, p, dimension, length, dimension)
	return spaceOf(p, length, rowsOf(form)...)
}

// equalLists does not tell nil and empty lists apart.
func equalLists(a, b [][]int64) bool { return slices.EqualFunc(a, b, slices.Equal) }

// equalSpaces does not rely on SameSpace.
func equalSpaces(a, b impl.Space) bool {
	return a.Prime == b.Prime && a.Length == b.Length && equalLists(a.Basis, b.Basis)
}

// checkSpace checks a result with a code; with a code other than OK, the space wanted is the zero Space.
func checkSpace(t *testing.T, what string, got impl.Space, code int64, want impl.Space, wantCode int64) {
	t.Helper()
	if !equalSpaces(got, want) || code != wantCode {
		t.Errorf("%s: got %v with the code %q, want %v with %q", what, got, impl.CodeName(code), want, impl.CodeName(wantCode))
	}
}

// checkNoSpace checks that there is no result but a code.
func checkNoSpace(t *testing.T, what string, got impl.Space, code, wantCode int64) {
	t.Helper()
	checkSpace(t, what, got, code, impl.Space{}, wantCode)
}

// checkLists is checkVector for lists of vectors.
func checkLists(t *testing.T, what string, got [][]int64, code int64, want [][]int64, wantCode int64) {
	t.Helper()
	if !equalLists(got, want) || code != wantCode {
		t.Errorf("%s: got %v with the code %q, want %v with %q", what, got, impl.CodeName(code), want, impl.CodeName(wantCode))
	}
}

// members tells of each vector modulo a prime, by its place in allVectors, whether it is in a set of them.
type members []bool

// numberOf returns the place of a vector in allVectors.
func numberOf(v []int64, p int64) int64 {
	number := int64(0)
	for _, n := range v {
		number = number*p + n
	}
	return number
}

// allVectors returns all vectors of a length; it is meant for few of them.
func allVectors(p, length int64) [][]int64 {
	all := [][]int64{{}}
	for range length {
		var next [][]int64
		for _, v := range all {
			for n := range p {
				next = append(next, append(slices.Clone(v), n))
			}
		}
		all = next
	}
	return all
}

// selected returns the set of all vectors with a property.
func selected(p, length int64, has func(v []int64) bool) members {
	var set members
	for _, v := range allVectors(p, length) {
		set = append(set, has(v))
	}
	return set
}

// reachedFrom returns the set of all sums of multiples of vectors, found by adding one vector again and again.
func reachedFrom(p, length int64, vectors [][]int64) members {
	set := selected(p, length, func(v []int64) bool { return numberOf(v, p) == 0 })
	for _, vector := range vectors {
		for n, v := range allVectors(p, length) {
			// If v is in the set, so are its sums with all multiples, whether they come before or after it.
			if set[n] {
				for range p {
					v = sumOf(v, vector, p)
					set[numberOf(v, p)] = true
				}
			}
		}
	}
	return set
}

func sumOf(a, b []int64, p int64) []int64 {
	sum := slices.Clone(a)
	for i, n := range b {
		sum[i] = (sum[i] + n) % p
	}
	return sum
}

func dotOf(a, b []int64, p int64) int64 {
	sum := int64(0)
	for i, n := range b {
		sum += a[i] * n
	}
	return sum % p
}

// firstPlace returns the place of the first number other than 0, or -1.
func firstPlace(v []int64) int {
	return slices.IndexFunc(v, func(n int64) bool { return n != 0 })
}

// isReduced reports whether rows are the ones of a reduced form that are not zeros.
func isReduced(rows [][]int64) bool {
	last := -1
	for i, row := range rows {
		pivot := firstPlace(row)
		if pivot <= last {
			return false
		}
		for k, other := range rows {
			if (k == i && other[pivot] != 1) || (k != i && other[pivot] != 0) {
				return false
			}
		}
		last = pivot
	}
	return true
}

// smallSpaces returns all spaces of a length; it is meant for few vectors.
func smallSpaces(p, length int64) []impl.Space {
	var spaces []impl.Space
	for dimension := range length + 1 {
		allMatrices(p, dimension, length, func(m impl.Matrix) {
			if rows := rowsOf(m); isReduced(rows) {
				spaces = append(spaces, spaceOf(p, length, rows...))
			}
		})
	}
	return spaces
}

// spacesByMembers returns all spaces of a length by the sets of their vectors.
func spacesByMembers(p, length int64) map[string]impl.Space {
	spaces := map[string]impl.Space{}
	for _, v := range smallSpaces(p, length) {
		spaces[fmt.Sprint(reachedFrom(p, length, v.Basis))] = v
	}
	return spaces
}

// smallShapes are primes and lengths of spaces of which there are few, with their number.
func smallShapes() [][3]int64 {
	return [][3]int64{{2, 0, 1}, {2, 1, 2}, {2, 2, 5}, {2, 3, 16}, {2, 4, 67}, {3, 0, 1}, {3, 1, 2}, {3, 2, 6}, {3, 3, 28}, {5, 2, 8}, {7, 2, 10}, {251, 0, 1}, {251, 1, 2}}
}

func TestAllSmallSpaces(t *testing.T) {
	for _, s := range smallShapes() {
		spaces := smallSpaces(s[0], s[1])
		checkEqual(t, fmt.Sprint("the number of spaces, with the prime and the length ", s[:2]), int64(len(spaces)), s[2])
		checkEqual(t, "the number of their sets of vectors", int64(len(spacesByMembers(s[0], s[1]))), s[2])
		for _, v := range spaces {
			checkEqual(t, fmt.Sprint("ValidSpace of ", v), impl.ValidSpace(v), true)
			again, code := impl.SpaceOf(v.Prime, v.Length, v.Basis)
			checkSpace(t, "SpaceOf a Basis", again, code, v, impl.OK)
			set := reachedFrom(v.Prime, v.Length, v.Basis)
			for n, x := range allVectors(v.Prime, v.Length) {
				checkMembership(t, v, x, set[n])
			}
		}
	}
}

// checkMembership checks whether a vector is in a space, and if so, its coordinates.
func checkMembership(t *testing.T, v impl.Space, x []int64, isIn bool) {
	t.Helper()
	what := fmt.Sprint(x, " and ", v)
	checkEqual(t, "ContainsVector: "+what, impl.ContainsVector(v, x), isIn)
	coordinates, code := impl.CoordinatesIn(v, x)
	if !isIn {
		checkVector(t, "CoordinatesIn: "+what, coordinates, code, nil, impl.ErrNotFound)
		return
	}
	checkEqual(t, "the number of coordinates: "+what, len(coordinates), len(v.Basis))
	m := matrixOf(v.Prime, int64(len(v.Basis)), v.Length, slices.Concat(v.Basis...)...)
	sum := productOf(matrixOf(v.Prime, 1, int64(len(coordinates)), coordinates...), m).Cells
	checkVector(t, "the sum with the coordinates: "+what, sum, code, x, impl.OK)
	checkEqual(t, "whether the coordinates are a vector: "+what, impl.ValidVector(coordinates, v.Prime), true)
}

func TestValidSpaceOfAllSmallBases(t *testing.T) {
	for _, s := range [][3]int64{{2, 0, 2}, {2, 1, 2}, {2, 2, 3}, {2, 3, 3}, {2, 3, 4}, {2, 4, 2}, {3, 1, 2}, {3, 2, 2}, {3, 2, 3}, {5, 2, 2}} {
		for count := range s[2] + 1 {
			allMatrices(s[0], count, s[1], func(m impl.Matrix) {
				rows := rowsOf(m)
				checkEqual(t, fmt.Sprint("ValidSpace of ", m), impl.ValidSpace(spaceOf(s[0], s[1], rows...)), isReduced(rows))
			})
		}
	}
}

func TestSpaceOfAllSmallLists(t *testing.T) {
	for _, s := range [][3]int64{{2, 0, 3}, {2, 1, 3}, {2, 2, 4}, {2, 3, 3}, {2, 4, 2}, {3, 1, 3}, {3, 2, 3}, {3, 3, 2}, {5, 2, 2}, {7, 1, 2}} {
		p, length := s[0], s[1]
		spaces := spacesByMembers(p, length)
		for count := range s[2] + 1 {
			allMatrices(p, count, length, func(m impl.Matrix) {
				vectors := rowsOf(m)
				got, code := impl.SpaceOf(p, length, vectors)
				checkSpace(t, fmt.Sprint("SpaceOf ", vectors), got, code, spaces[fmt.Sprint(reachedFrom(p, length, vectors))], impl.OK)
			})
		}
	}
}

// randomSums returns so many sums of random multiples of vectors.
func randomSums(r *rand.Rand, p, length int64, vectors [][]int64, count int) [][]int64 {
	var sums [][]int64
	for range count {
		sum := make([]int64, length)
		for _, v := range vectors {
			factor := r.Int63n(p)
			for i, n := range v {
				sum[i] = (sum[i] + n*factor) % p
			}
		}
		sums = append(sums, sum)
	}
	return sums
}

func TestSpaceOfManyVectors(t *testing.T) {
	r := rand.New(rand.NewSource(11))
	for _, p := range allPrimes() {
		for _, length := range someSides() {
			for _, dimension := range []int64{0, r.Int63n(length + 1), length} {
				want := randomSpace(r, p, length, dimension)
				vectors := randomSums(r, p, length, want.Basis, 50)
				// With these, in any order, there are enough vectors for the whole space.
				vectors = append(vectors, want.Basis...)
				r.Shuffle(len(vectors), func(i, k int) { vectors[i], vectors[k] = vectors[k], vectors[i] })
				vectors = append(vectors, vectors[0], filled(int(length), 0))
				got, code := impl.SpaceOf(p, length, vectors)
				checkSpace(t, "SpaceOf many vectors", got, code, want, impl.OK)
				slices.Reverse(vectors)
				got, code = impl.SpaceOf(p, length, vectors)
				checkSpace(t, "SpaceOf many vectors, in the other order", got, code, want, impl.OK)
				checkEqual(t, "ValidSpace of it", impl.ValidSpace(got), true)
			}
		}
	}
	many := slices.Repeat([][]int64{filled(impl.MaxSide, 250), filled(impl.MaxSide, 0)}, 10000)
	got, code := impl.SpaceOf(impl.MaxPrime, impl.MaxSide, many)
	checkSpace(t, "SpaceOf 20000 vectors", got, code, spaceOf(impl.MaxPrime, impl.MaxSide, filled(impl.MaxSide, 1)), impl.OK)
	got, code = impl.SpaceOf(2, 0, make([][]int64, 20000))
	checkSpace(t, "SpaceOf 20000 vectors without numbers", got, code, spaceOf(2, 0), impl.OK)
}

func TestSpacesAtTheLimits(t *testing.T) {
	for _, p := range somePrimes() {
		for _, length := range someSides() {
			zero, full := spaceOf(p, length), fullSpace(p, length)
			for _, vectors := range [][][]int64{nil, {}, {filled(int(length), 0)}, {filled(int(length), 0), filled(int(length), 0)}} {
				got, code := impl.SpaceOf(p, length, vectors)
				checkSpace(t, "SpaceOf nothing but zeros", got, code, zero, impl.OK)
			}
			got, code := impl.SpaceOf(p, length, full.Basis)
			checkSpace(t, "SpaceOf all unit vectors", got, code, full, impl.OK)
			checkEqual(t, "ValidSpace of the dimension 0", impl.ValidSpace(zero), true)
			checkEqual(t, "ValidSpace of the full dimension", impl.ValidSpace(full), true)
			checkEqual(t, "ValidSpace of an empty Basis", impl.ValidSpace(impl.Space{Prime: p, Length: length, Basis: [][]int64{}}), true)
			checkMembership(t, zero, filled(int(length), 0), true)
			checkMembership(t, full, filled(int(length), p-1), true)
			checkMembership(t, zero, filled(int(length), p-1), length == 0)
		}
	}
}

func TestSpaceOfNoVectors(t *testing.T) {
	check := func(what string, p, length int64, vectors ...[]int64) {
		t.Helper()
		got, code := impl.SpaceOf(p, length, vectors)
		checkNoSpace(t, "SpaceOf with "+what, got, code, impl.ErrInvalid)
	}
	for _, p := range notPrimes() {
		check("no prime", p, 0)
		check("no prime", p, 2)
		check("no prime", p, 2, []int64{0, 0})
		check("no prime", p, -1)
	}
	for _, length := range wrongSides() {
		check("a wrong length", 3, length)
		check("a wrong length", 3, length, nil)
		check("a wrong length", 3, length, []int64{0})
	}
	check("a vector of a wrong length", 3, impl.MaxSide+1, filled(impl.MaxSide+1, 0))
	for _, length := range someSides() {
		for _, other := range append(someSides(), impl.MaxSide+1, impl.MaxList, impl.MaxList+1, 100000) {
			if other != length {
				check("a vector of another length", 3, length, filled(int(other), 0))
				check("a last vector of another length", 3, length, filled(int(length), 0), filled(int(other), 0))
				check("a first vector of another length", 3, length, filled(int(other), 0), filled(int(length), 0))
			}
		}
	}
	for _, p := range somePrimes() {
		for _, n := range outsideNumbers(p) {
			for place := range 2 {
				wrong := []int64{0, 0}
				wrong[place] = n
				check("a number outside", p, 2, wrong)
				check("a number outside behind", p, 2, []int64{1, 0}, []int64{0, 1}, wrong)
				check("a number outside in front", p, 2, wrong, []int64{1, 0})
			}
		}
	}
}

// wrongSpaces returns spaces of which each one is not valid for one reason.
func wrongSpaces() map[string]impl.Space {
	wrong := map[string]impl.Space{
		"the zero Space":                     {},
		"a pivot of 2":                       spaceOf(3, 2, []int64{2, 0}),
		"a row of zeros":                     spaceOf(3, 2, []int64{0, 0}),
		"a row of zeros behind":              spaceOf(3, 2, []int64{1, 0}, []int64{0, 0}),
		"a row of zeros in front":            spaceOf(3, 2, []int64{0, 0}, []int64{0, 1}),
		"a row of zeros behind all":          spaceOf(3, 2, []int64{1, 0}, []int64{0, 1}, []int64{0, 0}),
		"another order":                      spaceOf(3, 2, []int64{0, 1}, []int64{1, 0}),
		"an equal row":                       spaceOf(3, 2, []int64{1, 2}, []int64{1, 2}),
		"a multiple":                         spaceOf(3, 2, []int64{1, 2}, []int64{2, 1}),
		"a number above a pivot":             spaceOf(3, 2, []int64{1, 1}, []int64{0, 1}),
		"a number below a pivot":             spaceOf(3, 2, []int64{1, 0}, []int64{1, 1}),
		"more rows than numbers":             spaceOf(3, 1, []int64{1}, []int64{1}),
		"a row that is too short":            spaceOf(3, 2, []int64{1}),
		"a row that is too long":             spaceOf(3, 2, []int64{1, 0, 0}),
		"a second row that is too short":     spaceOf(3, 2, []int64{1, 0}, []int64{0}),
		"a second row that is too long":      spaceOf(3, 2, []int64{1, 0}, []int64{0, 1, 0}),
		"an empty row":                       spaceOf(3, 2, []int64{}),
		"nil as a row":                       spaceOf(3, 2, nil),
		"nil as a second row":                spaceOf(3, 2, []int64{1, 0}, nil),
		"an empty row of the Length 0":       spaceOf(3, 0, []int64{}),
		"nil as a row of the Length 0":       spaceOf(3, 0, nil),
		"a number of the Length 0":           spaceOf(3, 0, []int64{0}),
		"a Length that is too great":         spaceOf(3, impl.MaxSide+1),
		"a row and a Length too great":       spaceOf(3, impl.MaxSide+1, filled(impl.MaxSide+1, 1)),
		"too many rows of the greatest size": spaceOf(3, impl.MaxSide, append(fullSpace(3, impl.MaxSide).Basis, filled(impl.MaxSide, 0))...),
		"a great many rows":                  spaceOf(3, 2, slices.Repeat([][]int64{{1, 0}}, 1000)...),
		"a great many numbers":               spaceOf(3, 2, filled(100000, 0)),
		"the greatest prime and one more":    spaceOf(257, 1, []int64{1}),
		"no vectors modulo no prime":         spaceOf(4, 2),
		"no numbers modulo no prime":         spaceOf(4, 0),
	}
	for _, p := range notPrimes() {
		wrong[fmt.Sprint("the prime ", p)] = spaceOf(p, 2, []int64{1, 0})
	}
	for _, n := range wrongSides() {
		wrong[fmt.Sprint("the length ", n)] = spaceOf(3, n)
		wrong[fmt.Sprint("a row and the length ", n)] = spaceOf(3, n, []int64{1, 0})
	}
	for _, n := range outsideNumbers(3) {
		wrong[fmt.Sprint("the first number ", n)] = spaceOf(3, 3, []int64{n, 0, 0})
		wrong[fmt.Sprint("the last number ", n)] = spaceOf(3, 3, []int64{1, 0, n})
		wrong[fmt.Sprint("the last number of two rows ", n)] = spaceOf(3, 3, []int64{1, 0, 0}, []int64{0, 1, n})
	}
	return wrong
}

func TestSpacesThatAreNotValid(t *testing.T) {
	for what, v := range wrongSpaces() {
		checkEqual(t, "ValidSpace with "+what, impl.ValidSpace(v), false)
		checkEqual(t, "SpaceText with "+what, impl.SpaceText(v), "")
		got, code := impl.OrthogonalOf(v)
		checkNoSpace(t, "OrthogonalOf with "+what, got, code, impl.ErrInvalid)
		got, code = impl.ComplementOf(v)
		checkNoSpace(t, "ComplementOf with "+what, got, code, impl.ErrInvalid)
		// A space that is not valid comes before a vector that is not one of it.
		for _, x := range append(oddVectors(), []int64{0, 0}, []int64{1, 0}, []int64{0, 0, 0}) {
			checkEqual(t, "ContainsVector with "+what, impl.ContainsVector(v, x), false)
			coordinates, code := impl.CoordinatesIn(v, x)
			checkVector(t, "CoordinatesIn with "+what, coordinates, code, nil, impl.ErrInvalid)
		}
	}
}

func TestVectorsThatAreNotOfASpace(t *testing.T) {
	t.Parallel()
	check := func(what string, v impl.Space, x []int64) {
		t.Helper()
		coordinates, code := impl.CoordinatesIn(v, x)
		checkVector(t, "CoordinatesIn for "+what, coordinates, code, nil, impl.ErrRange)
		checkEqual(t, "ContainsVector for "+what, impl.ContainsVector(v, x), false)
	}
	for _, p := range somePrimes() {
		for _, length := range someSides() {
			for _, v := range []impl.Space{spaceOf(p, length), fullSpace(p, length)} {
				for _, other := range append(someSides(), length+1, impl.MaxSide+1, impl.MaxList+1, 100000) {
					if other != length {
						check("a vector of another length", v, filled(int(other), 0))
					}
				}
				for place := range length {
					for _, n := range outsideNumbers(p) {
						x := filled(int(length), 0)
						x[place] = n
						check("a number outside", v, x)
					}
				}
			}
		}
	}
}

func TestSameSpace(t *testing.T) {
	v := spaceOf(5, 3, []int64{1, 0, 2}, []int64{0, 1, 4})
	checkEqual(t, "a copy", impl.SameSpace(v, spaceOf(5, 3, slices.Clone(v.Basis[0]), slices.Clone(v.Basis[1]))), true)
	others := []impl.Space{
		{}, spaceOf(7, 3, v.Basis...), spaceOf(5, 4, v.Basis...), spaceOf(5, 2, v.Basis...), spaceOf(-5, 3, v.Basis...), spaceOf(5, 3), spaceOf(3, 5), spaceOf(3, 5, v.Basis...),
		spaceOf(5, 3, v.Basis[0]), spaceOf(5, 3, v.Basis[1]), spaceOf(5, 3, v.Basis[1], v.Basis[0]), spaceOf(5, 3, v.Basis[0], v.Basis[1], v.Basis[1]), spaceOf(5, 3, v.Basis[0], v.Basis[1], nil),
		spaceOf(5, 3, v.Basis[0], []int64{0, 1}), spaceOf(5, 3, v.Basis[0], []int64{0, 1, 4, 0}), spaceOf(5, 3, []int64{1, 0}, []int64{2, 0, 1, 4}), spaceOf(5, 3, []int64{1, 0, 2, 0, 1, 4}), spaceOf(5, 3, v.Basis[0], nil), spaceOf(5, 3, nil, v.Basis[1]),
	}
	for row := range v.Basis {
		for place := range v.Basis[row] {
			other := spaceOf(5, 3, slices.Clone(v.Basis[0]), slices.Clone(v.Basis[1]))
			other.Basis[row][place] += 5
			others = append(others, other)
		}
	}
	for i, other := range others {
		checkEqual(t, "another space", impl.SameSpace(v, other), false)
		checkEqual(t, "another space in front", impl.SameSpace(other, v), false)
		for k, next := range others {
			checkEqual(t, "two of the others", impl.SameSpace(other, next), i == k)
		}
	}
	for what, wrong := range wrongSpaces() {
		twin := spaceOf(wrong.Prime, wrong.Length)
		for _, row := range wrong.Basis {
			twin.Basis = append(twin.Basis, slices.Clone(row))
		}
		checkEqual(t, "the same space with "+what, impl.SameSpace(wrong, twin), true)
	}
	nothing, empty := impl.Space{Prime: math.MinInt64}, impl.Space{Prime: math.MinInt64, Basis: [][]int64{}}
	checkEqual(t, "nil and empty", impl.SameSpace(nothing, empty) && impl.SameSpace(empty, nothing), true)
	nothing, empty = spaceOf(2, 1, nil), spaceOf(2, 1, []int64{})
	checkEqual(t, "nil and empty as rows", impl.SameSpace(nothing, empty) && impl.SameSpace(empty, nothing), true)
	checkEqual(t, "nil, and nil as a row", impl.SameSpace(nothing, spaceOf(2, 1)), false)
}
