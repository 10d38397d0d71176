package tests

import (
	"fmt"
	"maps"
	"math"
	"math/rand"
	"slices"
	"testing"

	"loop.example/g01005/impl"
)

// complexOf returns a complex, which may be one that is not valid.
func complexOf(simplices ...[]int64) impl.Complex { return impl.Complex{Simplices: simplices} }

// equalComplexes does not rely on SameComplex.
func equalComplexes(a, b impl.Complex) bool { return equalLists(a.Simplices, b.Simplices) }

// checkComplex checks a result with a code; with a code other than OK, the complex wanted is the zero Complex.
func checkComplex(t *testing.T, what string, got impl.Complex, code int64, want impl.Complex, wantCode int64) {
	t.Helper()
	if !equalComplexes(got, want) || code != wantCode {
		t.Errorf("%s: got %v with the code %q, want %v with %q", what, got, impl.CodeName(code), want, impl.CodeName(wantCode))
	}
}

// checkNoComplex checks that there is no result but a code.
func checkNoComplex(t *testing.T, what string, got impl.Complex, code, wantCode int64) {
	t.Helper()
	checkComplex(t, what, got, code, impl.Complex{}, wantCode)
}

// isSimplex, isFaceOf, orderOf, closureOf and isComplex go by the definitions, to check the package against.
func isSimplex(s []int64) bool {
	if len(s) < 1 || len(s) > 4 {
		return false
	}
	for i, vertex := range s {
		if vertex < 0 || vertex > 9 || (i > 0 && vertex <= s[i-1]) {
			return false
		}
	}
	return true
}

func isFaceOf(face, s []int64) bool {
	for _, vertex := range face {
		if !slices.Contains(s, vertex) {
			return false
		}
	}
	return true
}

// orderOf is less than 0 if a is before b, 0 if they are equal, and greater than 0 otherwise.
func orderOf(a, b []int64) int64 {
	if len(a) != len(b) {
		return int64(len(a) - len(b))
	}
	for i := range a {
		if a[i] != b[i] {
			return a[i] - b[i]
		}
	}
	return 0
}

func closureOf(list [][]int64) [][]int64 {
	var closure [][]int64
	for _, s := range allSimplices(impl.MaxVertices) {
		if slices.ContainsFunc(list, func(other []int64) bool { return isFaceOf(s, other) }) {
			closure = append(closure, s)
		}
	}
	return closure
}

func isComplex(list [][]int64) bool {
	for i, s := range list {
		if !isSimplex(s) || (i > 0 && orderOf(list[i-1], s) >= 0) {
			return false
		}
	}
	return len(list) <= 48 && equalLists(list, closureOf(list))
}

// allSimplices returns all simplices with vertices less than count, in order.
func allSimplices(count int64) [][]int64 {
	var all [][]int64
	last := [][]int64{{}}
	for range impl.MaxDimension + 1 {
		var next [][]int64
		for _, s := range last {
			for vertex := range count {
				if len(s) == 0 || s[len(s)-1] < vertex {
					next = append(next, append(slices.Clone(s), vertex))
				}
			}
		}
		all = append(all, next...)
		last = next
	}
	return all
}

// indexIn returns the index of a simplex in a list, or -1.
func indexIn(list [][]int64, s []int64) int64 {
	return int64(slices.IndexFunc(list, func(other []int64) bool { return slices.Equal(other, s) }))
}

// without returns a simplex without a vertex.
func without(s []int64, vertex int64) []int64 {
	return slices.DeleteFunc(slices.Clone(s), func(other int64) bool { return other == vertex })
}

// smallComplexes returns all complexes with vertices less than count.
func smallComplexes(count int64) []impl.Complex {
	complexes := []impl.Complex{{}}
	for _, s := range allSimplices(count) {
		// Each complex so far also goes on with s, if it has what s needs.
		for _, c := range complexes {
			missing := func(vertex int64) bool { return indexIn(c.Simplices, without(s, vertex)) < 0 }
			if len(s) == 1 || !slices.ContainsFunc(s, missing) {
				complexes = append(complexes, complexOf(append(slices.Clone(c.Simplices), s)...))
			}
		}
	}
	return complexes
}

// randomSimplex returns simplices of all dimensions equally often.
func randomSimplex(r *rand.Rand) []int64 {
	var s []int64
	for _, vertex := range r.Perm(impl.MaxVertices)[:1+r.Intn(impl.MaxDimension+1)] {
		s = append(s, int64(vertex))
	}
	slices.Sort(s)
	return s
}

// randomComplex returns a valid complex, which may be as large as one can be.
func randomComplex(r *rand.Rand) impl.Complex {
	var list [][]int64
	for range r.Intn(30) {
		if next := closureOf(append(slices.Clone(list), randomSimplex(r))); len(next) <= impl.MaxSimplices {
			list = next
		}
	}
	return complexOf(list...)
}

// torus has 7 vertices, each two of which are the vertices of an edge.
func torus() impl.Complex {
	var triangles [][]int64
	for i := range int64(7) {
		for _, s := range [][]int64{{i, (i + 1) % 7, (i + 3) % 7}, {i, (i + 2) % 7, (i + 3) % 7}} {
			slices.Sort(s)
			triangles = append(triangles, s)
		}
	}
	return complexOf(closureOf(triangles)...)
}

// namedComplexes returns complexes at the limits and some with known numbers.
func namedComplexes() map[string]impl.Complex {
	all := allSimplices(impl.MaxVertices)
	return map[string]impl.Complex{
		"no simplices":             {},
		"a vertex":                 complexOf([]int64{0}),
		"the last vertex":          complexOf([]int64{9}),
		"an edge":                  complexOf(closureOf([][]int64{{3, 7}})...),
		"a simplex":                complexOf(closureOf([][]int64{{1, 4, 8, 9}})...),
		"all vertices":             complexOf(all[:10]...),
		"as many as can be":        complexOf(all[:impl.MaxSimplices]...),
		"as many, in two parts":    complexOf(closureOf([][]int64{{0, 2, 4, 6}, {1, 3, 5, 7}, {1, 3, 5, 9}, {1, 3, 7, 9}, {1, 8}, {3, 8}, {5, 8}, {7, 8}, {8, 9}})...),
		"a sphere":                 complexOf(allSimplices(4)[:14]...),
		"a torus":                  torus(),
		"a path in disorder":       complexOf(closureOf([][]int64{{7, 9}, {2, 9}, {2, 5}, {5, 8}, {0, 8}})...),
		"parts in disorder":        complexOf(closureOf([][]int64{{1, 6}, {0, 9}, {4, 6}, {3, 9}, {2, 3}, {5, 8}, {7}})...),
		"a part of great vertices": complexOf(closureOf([][]int64{{7, 8, 9}, {0}})...),
	}
}

func TestLimitsOfComplexes(t *testing.T) {
	checkEqual(t, "the limits", []int64{impl.MaxVertices, impl.MaxSimplices, impl.MaxDimension}, []int64{10, 48, 3})
	checkEqual(t, "the number of all simplices", len(allSimplices(impl.MaxVertices)), 10+45+120+210)
	for what, c := range namedComplexes() {
		checkEqual(t, "ValidComplex of "+what, impl.ValidComplex(c), true)
	}
	checkEqual(t, "the greatest number of simplices", len(namedComplexes()["as many, in two parts"].Simplices), impl.MaxSimplices)
}

// outsideVertices are numbers that are no vertices, some of which look like vertices if bits are lost.
func outsideVertices() []int64 {
	return []int64{-1, 10, -2, 11, 12, 15, 16, 31, 32, 63, 64, 65, 127, 128, 256, -10, -64, 1 << 16, 1 << 32, -1 << 32, 1<<32 + 1, 1 << 62, math.MinInt64, math.MinInt64 + 1, math.MaxInt64 - 1, math.MaxInt64}
}

// wrongSimplices are lists that are no simplices.
func wrongSimplices() [][]int64 {
	list := [][]int64{
		nil, {}, {0, 0}, {9, 9}, {1, 0}, {9, 8}, {0, 1, 1}, {1, 1, 2}, {0, 2, 1}, {2, 1, 0}, {1, 0, 2}, {0, 1, 2, 2}, {0, 1, 3, 2}, {3, 2, 1, 0}, {1, 2, 3, 0}, {0, 0, 0, 0},
		{0, 1, 2, 3, 4}, {5, 6, 7, 8, 9}, {0, 1, 2, 3, 3}, {0, 1, 2, 3, 10}, {0, 1, 2, 3, -1}, {0, 1, 2, 3, 4, 5}, {0, 1, 2, 3, 4, 5, 6, 7, 8, 9}, filled(100000, 0),
		{math.MinInt64, math.MaxInt64}, {math.MaxInt64, math.MinInt64}, {math.MaxInt64, 0}, {math.MaxInt64 - 1, math.MaxInt64}, {math.MinInt64, math.MinInt64 + 1}, {0, math.MinInt64}, {-1, math.MaxInt64},
	}
	for _, n := range outsideVertices() {
		list = append(list, []int64{n}, []int64{n, 0}, []int64{0, n}, []int64{9, n}, []int64{0, n, 2}, []int64{0, 1, n}, []int64{n, 1, 2, 3}, []int64{0, 1, 2, n})
	}
	return list
}

func TestValidSimplex(t *testing.T) {
	for _, s := range allSimplices(impl.MaxVertices) {
		checkEqual(t, fmt.Sprint("ValidSimplex of ", s), impl.ValidSimplex(s), true)
	}
	for _, s := range wrongSimplices() {
		checkEqual(t, fmt.Sprintf("ValidSimplex of %.60s", fmt.Sprint(s)), impl.ValidSimplex(s), false)
	}
	count := 0
	for _, s := range listsOf([]int64{-1, 0, 1, 2, 8, 9, 10}, 5) {
		checkEqual(t, fmt.Sprint("ValidSimplex of ", s), impl.ValidSimplex(s), isSimplex(s))
		if isSimplex(s) {
			count++
		}
	}
	checkEqual(t, "the number of simplices", count, 5+10+10+5)
}

// listsOf returns all lists of at most so many elements.
func listsOf[T any](elements []T, most int) [][]T {
	lists, last := [][]T{{}}, [][]T{{}}
	for range most {
		var next [][]T
		for _, list := range last {
			for _, element := range elements {
				next = append(next, append(slices.Clone(list), element))
			}
		}
		lists = append(lists, next...)
		last = next
	}
	return lists
}

// TestAllSmallComplexes also checks the numbers of complexes against the known ones, which are by 1 less than Dedekind's,
// and for 5 vertices by 1 more, as there is none with a simplex of 5 vertices.
func TestAllSmallComplexes(t *testing.T) {
	for count, want := range []int{1, 2, 5, 19, 167, 7579} {
		complexes := smallComplexes(int64(count))
		checkEqual(t, fmt.Sprint("the number of complexes with the vertices before ", count), len(complexes), want)
		for _, c := range complexes {
			checkEqual(t, fmt.Sprint("ValidComplex of ", c), impl.ValidComplex(c), true)
		}
	}
}

func TestValidComplexOfAllSmallSets(t *testing.T) {
	all := allSimplices(4)
	count := 0
	for number := range 1 << len(all) {
		var c impl.Complex
		for i, s := range all {
			if number>>i&1 == 1 {
				c.Simplices = append(c.Simplices, s)
			}
		}
		// Each simplex of a complex needs only those with one vertex less, as these need the others.
		lacksSide := func(s []int64) bool {
			return len(s) > 1 && slices.ContainsFunc(s, func(vertex int64) bool { return indexIn(c.Simplices, without(s, vertex)) < 0 })
		}
		want := !slices.ContainsFunc(c.Simplices, lacksSide)
		checkEqual(t, fmt.Sprint("ValidComplex of ", c), impl.ValidComplex(c), want)
		if want {
			count++
		}
	}
	checkEqual(t, "the number of complexes", count, 167)
}

func TestValidComplexOfAllShortLists(t *testing.T) {
	t.Parallel()
	elements := append(allSimplices(3), []int64{}, []int64{1, 0}, []int64{0, 0}, []int64{-1}, []int64{10})
	count := 0
	for _, list := range listsOf(elements, 4) {
		want := isComplex(list)
		checkEqual(t, fmt.Sprint("ValidComplex of ", list), impl.ValidComplex(complexOf(list...)), want)
		if want {
			count++
		}
	}
	// One without simplices, three with 1, three with 2, and one and three edges with 3, and three edges with another vertex.
	checkEqual(t, "the number of complexes", count, 1+3+3+4+3)
}

// wrongComplexes returns complexes of which each one is not valid for one reason.
func wrongComplexes() map[string]impl.Complex {
	all := allSimplices(impl.MaxVertices)
	wrong := map[string]impl.Complex{
		"vertices in another order":          complexOf([]int64{1}, []int64{0}),
		"edges in another order":             complexOf([]int64{0}, []int64{1}, []int64{2}, []int64{0, 2}, []int64{0, 1}),
		"an edge before its vertices":        complexOf([]int64{0, 1}, []int64{0}, []int64{1}),
		"lexicographic order alone":          complexOf([]int64{0}, []int64{0, 1}, []int64{1}),
		"lexicographic order of more":        complexOf([]int64{0}, []int64{0, 1}, []int64{0, 2}, []int64{1}, []int64{2}),
		"the order of the last vertices":     complexOf([]int64{0}, []int64{1}, []int64{2}, []int64{3}, []int64{0, 1}, []int64{1, 2}, []int64{0, 3}),
		"a vertex twice":                     complexOf([]int64{0}, []int64{0}),
		"an edge twice":                      complexOf([]int64{0}, []int64{1}, []int64{0, 1}, []int64{0, 1}),
		"a vertex again":                     complexOf([]int64{0}, []int64{1}, []int64{0, 1}, []int64{0}),
		"an edge alone":                      complexOf([]int64{0, 1}),
		"an edge without its first vertex":   complexOf([]int64{1}, []int64{0, 1}),
		"an edge without its second vertex":  complexOf([]int64{0}, []int64{0, 1}),
		"a triangle without an edge":         complexOf([]int64{0}, []int64{1}, []int64{2}, []int64{0, 1}, []int64{0, 2}, []int64{0, 1, 2}),
		"a triangle without a vertex":        complexOf([]int64{0}, []int64{1}, []int64{0, 1}, []int64{0, 2}, []int64{1, 2}, []int64{0, 1, 2}),
		"a triangle without edges":           complexOf([]int64{0}, []int64{1}, []int64{2}, []int64{0, 1, 2}),
		"a simplex without triangles":        complexOf(append(allSimplices(4)[:10], []int64{0, 1, 2, 3})...),
		"a simplex without edges":            complexOf(append(append(allSimplices(4)[:4:4], allSimplices(4)[10:14]...), []int64{0, 1, 2, 3})...),
		"a simplex of a dimension too great": complexOf(append(allSimplices(5), []int64{0, 1, 2, 3, 4})...),
		"a simplex too many":                 complexOf(all[:impl.MaxSimplices+1]...),
		"all simplices":                      complexOf(all...),
		"a great many vertices":              complexOf(slices.Repeat([][]int64{{0}}, 100000)...),
		"a great many numbers":               complexOf(filled(100000, 0)),
	}
	for i, s := range wrongSimplices() {
		if len(s) < 100 {
			wrong[fmt.Sprint("the simplex alone, ", i, ", ", s)] = complexOf(s)
			wrong[fmt.Sprint("the last simplex, ", i, ", ", s)] = complexOf([]int64{0}, []int64{1}, s)
			wrong[fmt.Sprint("the first simplex, ", i, ", ", s)] = complexOf(s, []int64{0}, []int64{1})
		}
	}
	return wrong
}

// someNumbers are indices and dimensions inside and outside of their range.
func someNumbers() []int64 {
	return []int64{0, 1, 3, -1, 4, impl.MaxSimplices, impl.MaxSimplices + 1, 1 << 16, 1 << 32, -1 << 32, math.MinInt64, math.MinInt64 + 1, math.MaxInt64 - 1, math.MaxInt64}
}

// indexLists are the functions of a complex and a number whose results are indices, and numberComplexes those with complexes.
func indexLists() map[string]func(c impl.Complex, n int64) ([]int64, int64) {
	return map[string]func(c impl.Complex, n int64) ([]int64, int64){"SimplicesOf": impl.SimplicesOf, "FacesOf": impl.FacesOf, "StarOf": impl.StarOf}
}

func numberComplexes() map[string]func(c impl.Complex, n int64) (impl.Complex, int64) {
	return map[string]func(c impl.Complex, n int64) (impl.Complex, int64){"LinkOf": impl.LinkOf, "SkeletonOf": impl.SkeletonOf, "ConeOf": impl.ConeOf}
}

// TestComplexesThatAreNotValid also checks that this comes before all other errors.
func TestComplexesThatAreNotValid(t *testing.T) {
	t.Parallel()
	for what, c := range wrongComplexes() {
		checkEqual(t, "ValidComplex with "+what, impl.ValidComplex(c), false)
		checkEqual(t, "ComplexText with "+what, impl.ComplexText(c), "")
		facets, code := impl.FacetsOf(c)
		checkVector(t, "FacetsOf with "+what, facets, code, nil, impl.ErrInvalid)
		parts, code := impl.PartsOf(c)
		checkVector(t, "PartsOf with "+what, parts, code, nil, impl.ErrInvalid)
		euler, code := impl.EulerNumber(c)
		checkNumber(t, "EulerNumber with "+what, euler, code, 0, impl.ErrInvalid)
		for _, s := range [][]int64{{0}, {9}, {0, 1}, nil, {1, 0}, {10}} {
			k, code := impl.IndexOf(c, s)
			checkNumber(t, "IndexOf with "+what, k, code, 0, impl.ErrInvalid)
		}
		for _, n := range append(someNumbers(), 9) {
			for name, call := range indexLists() {
				list, code := call(c, n)
				checkVector(t, fmt.Sprint(name, " with ", n, " and ", what), list, code, nil, impl.ErrInvalid)
			}
			for name, call := range numberComplexes() {
				got, code := call(c, n)
				checkNoComplex(t, fmt.Sprint(name, " with ", n, " and ", what), got, code, impl.ErrInvalid)
			}
		}
	}
}

func TestSameComplex(t *testing.T) {
	c := complexOf([]int64{0}, []int64{1}, []int64{0, 1})
	checkEqual(t, "a copy", impl.SameComplex(c, complexOf([]int64{0}, []int64{1}, []int64{0, 1})), true)
	others := []impl.Complex{
		{}, complexOf([]int64{0}, []int64{1}), complexOf([]int64{1}, []int64{0}, []int64{0, 1}), complexOf([]int64{0}, []int64{0, 1}, []int64{1}), complexOf([]int64{0}, []int64{1}, []int64{1, 0}),
		complexOf([]int64{0}, []int64{1}, []int64{0, 1}, nil), complexOf(nil, []int64{0}, []int64{1}, []int64{0, 1}), complexOf([]int64{0}, []int64{1}, []int64{0, 1}, []int64{0, 1}), complexOf([]int64{0, 1, 0, 1}),
		complexOf([]int64{0}, []int64{1}, nil), complexOf([]int64{0}, []int64{1}, []int64{0}), complexOf([]int64{0}, []int64{1}, []int64{0, 1, 2}), complexOf([]int64{0}, []int64{1, 0}, []int64{1}), complexOf(nil, nil, nil), complexOf(nil),
	}
	for i, s := range c.Simplices {
		for place := range s {
			other := complexOf([]int64{0}, []int64{1}, []int64{0, 1})
			other.Simplices[i][place] += 1 << 32
			others = append(others, other)
		}
	}
	for i, other := range others {
		checkEqual(t, "another complex", impl.SameComplex(c, other), false)
		checkEqual(t, "another complex in front", impl.SameComplex(other, c), false)
		for k, next := range others {
			checkEqual(t, fmt.Sprint(other, " and ", next), impl.SameComplex(other, next), i == k)
		}
	}
	for what, wrong := range wrongComplexes() {
		checkEqual(t, "the same complex with "+what, impl.SameComplex(wrong, complexOf(copiedLists(wrong.Simplices)...)), true)
	}
	empty := impl.Complex{Simplices: [][]int64{}}
	checkEqual(t, "nil and empty", impl.SameComplex(impl.Complex{}, empty) && impl.SameComplex(empty, impl.Complex{}), true)
	checkEqual(t, "nil and empty as simplices", impl.SameComplex(complexOf(nil), complexOf([]int64{})) && impl.SameComplex(complexOf([]int64{}), complexOf(nil)), true)
}

func TestClosureOfAllSmallLists(t *testing.T) {
	t.Parallel()
	for _, list := range listsOf(allSimplices(4), 3) {
		got, code := impl.ClosureOf(list)
		checkComplex(t, fmt.Sprint("ClosureOf ", list), got, code, complexOf(closureOf(list)...), impl.OK)
	}
}

func TestClosureOfRandomLists(t *testing.T) {
	t.Parallel()
	r := rand.New(rand.NewSource(21))
	codes := map[int64]int{}
	for range 3000 {
		var list [][]int64
		for range r.Intn(impl.MaxSimplices + 1) {
			if len(list) > 0 && r.Intn(3) > 0 {
				list = append(list, list[r.Intn(len(list))])
			} else {
				list = append(list, randomSimplex(r))
			}
		}
		want, wantCode := complexOf(closureOf(list)...), int64(impl.OK)
		if len(want.Simplices) > impl.MaxSimplices {
			want, wantCode = impl.Complex{}, impl.ErrFull
		}
		got, code := impl.ClosureOf(list)
		checkComplex(t, fmt.Sprint("ClosureOf ", list), got, code, want, wantCode)
		codes[code]++
	}
	checkEqual(t, "whether both codes have come often", codes[impl.OK] > 300 && codes[impl.ErrFull] > 300, true)
}

func TestClosureOfManySimplices(t *testing.T) {
	check := func(what string, list [][]int64, want [][]int64, wantCode int64) {
		t.Helper()
		got, code := impl.ClosureOf(list)
		checkComplex(t, "ClosureOf "+what, got, code, complexOf(want...), wantCode)
	}
	all := allSimplices(impl.MaxVertices)
	check("nil", nil, nil, impl.OK)
	check("an empty list", [][]int64{}, nil, impl.OK)
	check("48 times a vertex", slices.Repeat([][]int64{{5}}, 48), [][]int64{{5}}, impl.OK)
	check("49 times a vertex", slices.Repeat([][]int64{{5}}, 49), nil, impl.ErrFull)
	check("100000 times a vertex", slices.Repeat([][]int64{{5}}, 100000), nil, impl.ErrFull)
	check("48 times a simplex", slices.Repeat([][]int64{{2, 4, 6, 8}}, 48), closureOf([][]int64{{2, 4, 6, 8}}), impl.OK)
	check("48 simplices", all[:48], all[:48], impl.OK)
	check("49 simplices", all[:49], nil, impl.ErrFull)
	check("the facets of 48 simplices", all[10:48], all[:48], impl.OK)
	check("the facets of 49 simplices", all[10:49], nil, impl.ErrFull)
	reversed := slices.Clone(all[:48])
	slices.Reverse(reversed)
	check("48 simplices in the other order", reversed, all[:48], impl.OK)
	mixed := [][]int64{{0, 1, 8, 9}, {4, 5, 6, 7}, {0, 1, 2, 3}, {2, 8}, {3, 8}, {2, 9}, {4, 9}, {4, 8}, {3, 9}}
	check("simplices with 48 faces", mixed, closureOf(mixed), impl.OK)
	check("simplices with 49 faces", append(mixed, []int64{5, 9}), nil, impl.ErrFull)
	checkEqual(t, "the number of faces", len(closureOf(mixed)), impl.MaxSimplices)
	check("simplices with too many faces", [][]int64{{0, 1, 2, 3}, {4, 5, 6, 7}, {0, 1, 8, 9}, {2, 3, 8, 9}}, nil, impl.ErrFull)
	check("all simplices of the greatest dimension", all[len(all)-210:], nil, impl.ErrFull)
	check("the last simplices of the greatest dimension", all[len(all)-48:], nil, impl.ErrFull)
}

// TestClosureOfNoSimplices also checks that a list that is no simplex comes before too many of them.
func TestClosureOfNoSimplices(t *testing.T) {
	t.Parallel()
	full := allSimplices(impl.MaxVertices)
	for _, wrong := range wrongSimplices() {
		for _, others := range [][][]int64{nil, {{0}}, {{0}, {0, 1}}, full[:47], full[:48], full[:49], full} {
			for _, place := range []int{0, len(others) / 2, len(others)} {
				got, code := impl.ClosureOf(slices.Insert(slices.Clone(others), place, wrong))
				checkNoComplex(t, fmt.Sprintf("ClosureOf with %.60s", fmt.Sprint(wrong)), got, code, impl.ErrInvalid)
			}
		}
	}
	got, code := impl.ClosureOf(append(slices.Repeat([][]int64{{5}}, 100000), nil))
	checkNoComplex(t, "ClosureOf with nil behind many vertices", got, code, impl.ErrInvalid)
}

// sortedNames returns the keys of a map in an order that does not change.
func sortedNames[T any](named map[string]T) []string { return slices.Sorted(maps.Keys(named)) }
