package tests

import (
	"fmt"
	"math"
	"math/rand"
	"slices"
	"testing"

	"loop.example/g01005/impl"
)

// placesOf returns the indices of the simplices with a property.
func placesOf(c impl.Complex, has func(s []int64) bool) []int64 {
	var list []int64
	for i, s := range c.Simplices {
		if has(s) {
			list = append(list, int64(i))
		}
	}
	return list
}

// partOf returns the complex of the simplices with a property.
func partOf(c impl.Complex, has func(s []int64) bool) impl.Complex {
	var part impl.Complex
	for _, s := range c.Simplices {
		if has(s) {
			part.Simplices = append(part.Simplices, s)
		}
	}
	return part
}

// joined returns the vertices of two lists, in order.
func joined(a, b []int64) []int64 {
	list := slices.Concat(a, b)
	slices.Sort(list)
	return list
}

// linkOf goes by another way than leaving out vertices: it tries each simplex whether it belongs there.
func linkOf(c impl.Complex, s []int64) impl.Complex {
	return partOf(complexOf(allSimplices(impl.MaxVertices)...), func(other []int64) bool {
		isApart := !slices.ContainsFunc(other, func(vertex int64) bool { return slices.Contains(s, vertex) })
		return isApart && indexIn(c.Simplices, joined(s, other)) >= 0
	})
}

// coneOf returns the cone by the definition, without regard to limits.
func coneOf(c impl.Complex, vertex int64) impl.Complex {
	var cone impl.Complex
	for _, s := range append(slices.Clone(c.Simplices), nil) {
		if len(s) > 0 {
			cone.Simplices = append(cone.Simplices, s)
		}
		cone.Simplices = append(cone.Simplices, joined(s, []int64{vertex}))
	}
	slices.SortFunc(cone.Simplices, func(a, b []int64) int { return int(orderOf(a, b)) })
	return cone
}

// partsOf looks for all vertices that chains of edges lead to, beginning at each vertex.
func partsOf(c impl.Complex) []int64 {
	var parts []int64
	for _, s := range c.Simplices {
		if len(s) > 1 {
			continue
		}
		reached := []int64{s[0]}
		for i := 0; i < len(reached); i++ {
			for next := range int64(impl.MaxVertices) {
				if !slices.Contains(reached, next) && indexIn(c.Simplices, joined(reached[i:i+1], []int64{next})) >= 0 {
					reached = append(reached, next)
				}
			}
		}
		parts = append(parts, slices.Min(reached))
	}
	return parts
}

// checkWhole checks all functions of a whole complex.
func checkWhole(t *testing.T, c impl.Complex) {
	t.Helper()
	what := fmt.Sprint(" of ", c)
	facets, code := impl.FacetsOf(c)
	checkVector(t, "FacetsOf"+what, facets, code, placesOf(c, func(s []int64) bool {
		return !slices.ContainsFunc(c.Simplices, func(other []int64) bool { return len(other) > len(s) && isFaceOf(s, other) })
	}), impl.OK)
	parts, code := impl.PartsOf(c)
	checkVector(t, "PartsOf"+what, parts, code, partsOf(c), impl.OK)
	euler, code := impl.EulerNumber(c)
	counts := map[int]int64{}
	for _, s := range c.Simplices {
		counts[len(s)]++
	}
	checkNumber(t, "EulerNumber"+what, euler, code, counts[1]-counts[2]+counts[3]-counts[4], impl.OK)
	for dimension := range int64(impl.MaxDimension + 1) {
		list, code := impl.SimplicesOf(c, dimension)
		checkVector(t, fmt.Sprint("SimplicesOf ", dimension, what), list, code, placesOf(c, func(s []int64) bool { return int64(len(s)) == dimension+1 }), impl.OK)
		skeleton, code := impl.SkeletonOf(c, dimension)
		checkComplex(t, fmt.Sprint("SkeletonOf ", dimension, what), skeleton, code, partOf(c, func(s []int64) bool { return int64(len(s)) <= dimension+1 }), impl.OK)
	}
}

// checkIndices checks all functions of a simplex of a complex, for each one.
func checkIndices(t *testing.T, c impl.Complex) {
	t.Helper()
	for i, s := range c.Simplices {
		k, what := int64(i), fmt.Sprint(" of ", s, " in ", c)
		index, code := impl.IndexOf(c, s)
		checkNumber(t, "IndexOf"+what, index, code, k, impl.OK)
		var faces []int64
		if len(s) > 1 {
			for _, vertex := range s {
				faces = append(faces, indexIn(c.Simplices, without(s, vertex)))
			}
		}
		got, code := impl.FacesOf(c, k)
		checkVector(t, "FacesOf"+what, got, code, faces, impl.OK)
		got, code = impl.StarOf(c, k)
		checkVector(t, "StarOf"+what, got, code, placesOf(c, func(other []int64) bool { return isFaceOf(s, other) }), impl.OK)
		link, code := impl.LinkOf(c, k)
		checkComplex(t, "LinkOf"+what, link, code, linkOf(c, s), impl.OK)
		checkEqual(t, "ValidComplex of LinkOf"+what, impl.ValidComplex(link), true)
	}
}

// checkMissing checks IndexOf for simplices that are not in a complex.
func checkMissing(t *testing.T, c impl.Complex, simplices [][]int64) {
	t.Helper()
	for _, s := range simplices {
		if indexIn(c.Simplices, s) < 0 {
			index, code := impl.IndexOf(c, s)
			checkNumber(t, fmt.Sprint("IndexOf ", s, " and ", c), index, code, 0, impl.ErrNotFound)
		}
	}
}

// checkCones checks the cones of a complex with all vertices.
func checkCones(t *testing.T, c impl.Complex) {
	t.Helper()
	for vertex := range int64(impl.MaxVertices) {
		want, wantCode := coneOf(c, vertex), int64(impl.OK)
		if indexIn(c.Simplices, []int64{vertex}) >= 0 {
			want, wantCode = impl.Complex{}, impl.ErrExists
		} else if len(want.Simplices) > 48 || len(want.Simplices[len(want.Simplices)-1]) > 4 {
			want, wantCode = impl.Complex{}, impl.ErrFull
		}
		cone, code := impl.ConeOf(c, vertex)
		checkComplex(t, fmt.Sprint("ConeOf ", vertex, " and ", c), cone, code, want, wantCode)
		if code == impl.OK {
			checkEqual(t, fmt.Sprint("ValidComplex of ConeOf ", c), impl.ValidComplex(cone), true)
			euler, code := impl.EulerNumber(cone)
			checkNumber(t, fmt.Sprint("EulerNumber of ConeOf ", c), euler, code, 1, impl.OK)
		}
	}
}

// checkPromise checks P6: a complex is the closure of its facets, and a simplex is in the stars of its faces.
func checkPromise(t *testing.T, c impl.Complex) {
	t.Helper()
	facets, _ := impl.FacetsOf(c)
	var list [][]int64
	for _, k := range facets {
		list = append(list, c.Simplices[k])
	}
	closure, code := impl.ClosureOf(list)
	checkComplex(t, "the closure of all facets", closure, code, c, impl.OK)
	slices.Reverse(list)
	closure, code = impl.ClosureOf(list)
	checkComplex(t, "the closure of all facets in the other order", closure, code, c, impl.OK)
	stars := make([][]int64, len(c.Simplices))
	for i := range c.Simplices {
		stars[i], _ = impl.StarOf(c, int64(i))
		checkEqual(t, "whether a simplex is in its own star", slices.Contains(stars[i], int64(i)), true)
	}
	for i, s := range c.Simplices {
		sides, _ := impl.FacesOf(c, int64(i))
		for _, side := range sides {
			checkEqual(t, fmt.Sprint("whether ", s, " is in the star of a face of FacesOf"), slices.Contains(stars[side], int64(i)), true)
		}
		for k, face := range c.Simplices {
			checkEqual(t, fmt.Sprint("whether ", s, " is in the star of ", face), slices.Contains(stars[k], int64(i)), isFaceOf(face, s))
		}
	}
}

// checkAround checks all functions of chapter 5 that take a complex apart.
func checkAround(t *testing.T, c impl.Complex) {
	t.Helper()
	checkWhole(t, c)
	checkIndices(t, c)
	checkCones(t, c)
	checkPromise(t, c)
}

func TestAroundAllSmallComplexes(t *testing.T) {
	t.Parallel()
	for _, c := range smallComplexes(4) {
		checkAround(t, c)
		checkMissing(t, c, allSimplices(5))
	}
	for _, c := range smallComplexes(5) {
		checkWhole(t, c)
		checkPromise(t, c)
	}
}

func TestAroundNamedComplexes(t *testing.T) {
	t.Parallel()
	for _, c := range namedComplexes() {
		checkAround(t, c)
		checkMissing(t, c, allSimplices(impl.MaxVertices))
	}
}

func TestAroundRandomComplexes(t *testing.T) {
	t.Parallel()
	r := rand.New(rand.NewSource(22))
	full := 0
	for range 400 {
		c := randomComplex(r)
		checkAround(t, c)
		if len(c.Simplices) >= impl.MaxSimplices-2 {
			full++
		}
	}
	checkEqual(t, "whether many of them are nearly full", full > 50, true)
	for range 20 {
		checkMissing(t, randomComplex(r), allSimplices(impl.MaxVertices))
	}
}

func TestComplexWithoutSimplices(t *testing.T) {
	for _, c := range []impl.Complex{{}, {Simplices: [][]int64{}}} {
		checkEqual(t, "ValidComplex", impl.ValidComplex(c), true)
		facets, code := impl.FacetsOf(c)
		checkVector(t, "FacetsOf", facets, code, nil, impl.OK)
		k, code := impl.IndexOf(c, []int64{0})
		checkNumber(t, "IndexOf", k, code, 0, impl.ErrNotFound)
		for n := range int64(impl.MaxDimension + 1) {
			list, code := impl.SimplicesOf(c, n)
			checkVector(t, "SimplicesOf", list, code, nil, impl.OK)
			skeleton, code := impl.SkeletonOf(c, n)
			checkNoComplex(t, "SkeletonOf", skeleton, code, impl.OK)
			faces, code := impl.FacesOf(c, n)
			checkVector(t, "FacesOf", faces, code, nil, impl.ErrRange)
			star, code := impl.StarOf(c, n)
			checkVector(t, "StarOf", star, code, nil, impl.ErrRange)
			link, code := impl.LinkOf(c, n)
			checkNoComplex(t, "LinkOf", link, code, impl.ErrRange)
		}
		for vertex := range int64(impl.MaxVertices) {
			cone, code := impl.ConeOf(c, vertex)
			checkComplex(t, "ConeOf", cone, code, complexOf([]int64{vertex}), impl.OK)
		}
		euler, code := impl.EulerNumber(c)
		checkNumber(t, "EulerNumber", euler, code, 0, impl.OK)
		parts, code := impl.PartsOf(c)
		checkVector(t, "PartsOf", parts, code, nil, impl.OK)
		checkEqual(t, "ComplexText", impl.ComplexText(c), "-")
	}
}

func TestComplexOfOneVertex(t *testing.T) {
	for vertex := range int64(impl.MaxVertices) {
		c := complexOf([]int64{vertex})
		facets, code := impl.FacetsOf(c)
		checkVector(t, "FacetsOf", facets, code, []int64{0}, impl.OK)
		faces, code := impl.FacesOf(c, 0)
		checkVector(t, "FacesOf", faces, code, nil, impl.OK)
		star, code := impl.StarOf(c, 0)
		checkVector(t, "StarOf", star, code, []int64{0}, impl.OK)
		link, code := impl.LinkOf(c, 0)
		checkNoComplex(t, "LinkOf", link, code, impl.OK)
		parts, code := impl.PartsOf(c)
		checkVector(t, "PartsOf", parts, code, []int64{vertex}, impl.OK)
		euler, code := impl.EulerNumber(c)
		checkNumber(t, "EulerNumber", euler, code, 1, impl.OK)
		_, code = impl.ConeOf(c, vertex)
		checkEqual(t, "ConeOf with its own vertex", code, impl.ErrExists)
		other := (vertex + 3) % impl.MaxVertices
		cone, code := impl.ConeOf(c, other)
		edge := joined([]int64{vertex}, []int64{other})
		checkComplex(t, "ConeOf with another vertex", cone, code, complexOf(edge[:1], edge[1:], edge), impl.OK)
	}
}

func TestExamplesOfComplexes(t *testing.T) {
	euler := func(c impl.Complex, want int64) {
		t.Helper()
		got, code := impl.EulerNumber(c)
		checkNumber(t, "EulerNumber", got, code, want, impl.OK)
	}
	named := namedComplexes()
	euler(complexOf(allSimplices(3)[:6]...), 0)
	euler(named["a sphere"], 2)
	euler(named["a torus"], 0)
	euler(named["all vertices"], 10)
	euler(named["as many as can be"], 10-38)
	// The lexicographic order counts only within a dimension, and numbers are compared as such.
	c, code := impl.ClosureOf([][]int64{{1, 9}, {2, 3}, {0, 1, 2}, {1, 2, 3}, {0, 8}})
	want := complexOf([]int64{0}, []int64{1}, []int64{2}, []int64{3}, []int64{8}, []int64{9}, []int64{0, 1}, []int64{0, 2}, []int64{0, 8}, []int64{1, 2}, []int64{1, 3}, []int64{1, 9}, []int64{2, 3}, []int64{0, 1, 2}, []int64{1, 2, 3})
	checkComplex(t, "ClosureOf", c, code, want, impl.OK)
	list := func(what string, got []int64, code int64, want ...int64) {
		t.Helper()
		checkVector(t, what, got, code, want, impl.OK)
	}
	facets, code := impl.FacetsOf(c)
	list("FacetsOf", facets, code, 8, 11, 13, 14)
	faces, code := impl.FacesOf(c, 13)
	list("FacesOf a triangle", faces, code, 9, 7, 6)
	faces, code = impl.FacesOf(c, 8)
	list("FacesOf an edge", faces, code, 4, 0)
	star, code := impl.StarOf(c, 1)
	list("StarOf a vertex", star, code, 1, 6, 9, 10, 11, 13, 14)
	link, code := impl.LinkOf(c, 1)
	checkComplex(t, "LinkOf a vertex", link, code, complexOf([]int64{0}, []int64{2}, []int64{3}, []int64{9}, []int64{0, 2}, []int64{2, 3}), impl.OK)
	link, code = impl.LinkOf(c, 9)
	checkComplex(t, "LinkOf an edge", link, code, complexOf([]int64{0}, []int64{3}), impl.OK)
	link, code = impl.LinkOf(c, 11)
	checkNoComplex(t, "LinkOf a facet", link, code, impl.OK)
	cone, code := impl.ConeOf(complexOf([]int64{0}, []int64{4}, []int64{9}, []int64{4, 9}), 5)
	checkComplex(t, "ConeOf", cone, code, complexOf([]int64{0}, []int64{4}, []int64{5}, []int64{9}, []int64{0, 5}, []int64{4, 5}, []int64{4, 9}, []int64{5, 9}, []int64{4, 5, 9}), impl.OK)
	parts, code := impl.PartsOf(named["a path in disorder"])
	list("PartsOf a path", parts, code, 0, 0, 0, 0, 0, 0)
	parts, code = impl.PartsOf(named["parts in disorder"])
	list("PartsOf several parts", parts, code, 0, 1, 0, 0, 1, 5, 1, 7, 5, 0)
	parts, code = impl.PartsOf(named["a part of great vertices"])
	list("PartsOf two parts", parts, code, 0, 7, 7, 7)
	for vertex := range int64(7) {
		link, code := impl.LinkOf(torus(), vertex)
		checkEqual(t, "the number of simplices around a vertex of a torus, and the code", []int64{int64(len(link.Simplices)), code}, []int64{12, impl.OK})
	}
}

func TestIndicesOutsideOfAComplex(t *testing.T) {
	for _, c := range namedComplexes() {
		count := int64(len(c.Simplices))
		for _, k := range []int64{-1, count, count + 1, -2, -count, -count - 1, 49, 1 << 16, 1 << 32, -1 << 32, 1<<62 + 1, math.MinInt64, math.MinInt64 + 1, math.MaxInt64 - 1, math.MaxInt64} {
			if 0 <= k && k < count {
				continue
			}
			what := fmt.Sprint(" of ", k, " with ", count, " simplices")
			faces, code := impl.FacesOf(c, k)
			checkVector(t, "FacesOf"+what, faces, code, nil, impl.ErrRange)
			star, code := impl.StarOf(c, k)
			checkVector(t, "StarOf"+what, star, code, nil, impl.ErrRange)
			link, code := impl.LinkOf(c, k)
			checkNoComplex(t, "LinkOf"+what, link, code, impl.ErrRange)
		}
	}
}

func TestDimensionsOutsideTheirRange(t *testing.T) {
	for _, c := range namedComplexes() {
		for _, n := range []int64{-1, impl.MaxDimension + 1, -2, 5, 9, -1 << 32, 1 << 32, 1<<32 + 1, 1 << 62, math.MinInt64, math.MinInt64 + 1, math.MaxInt64 - 1, math.MaxInt64} {
			list, code := impl.SimplicesOf(c, n)
			checkVector(t, fmt.Sprint("SimplicesOf ", n), list, code, nil, impl.ErrRange)
			skeleton, code := impl.SkeletonOf(c, n)
			checkNoComplex(t, fmt.Sprint("SkeletonOf ", n), skeleton, code, impl.ErrRange)
		}
	}
}

// TestConesWithoutAResult goes through the errors in their order, with complexes for which later ones apply as well.
func TestConesWithoutAResult(t *testing.T) {
	check := func(what string, c impl.Complex, vertex, want int64) {
		t.Helper()
		cone, code := impl.ConeOf(c, vertex)
		checkNoComplex(t, fmt.Sprint("ConeOf ", vertex, " and ", what), cone, code, want)
	}
	for what, c := range namedComplexes() {
		for _, vertex := range outsideVertices() {
			check(what, c, vertex, impl.ErrRange)
		}
		for _, s := range c.Simplices {
			if len(s) == 1 {
				check(what, c, s[0], impl.ErrExists)
			}
		}
	}
	all := allSimplices(9)
	check("a simplex", namedComplexes()["a simplex"], 0, impl.ErrFull)
	check("a simplex with others", complexOf(closureOf([][]int64{{0, 1, 2, 3}, {4}})...), 9, impl.ErrFull)
	check("24 simplices", complexOf(all[:24]...), 9, impl.ErrFull)
	check("45 simplices", complexOf(all[:45]...), 9, impl.ErrFull)
	cone, code := impl.ConeOf(complexOf(all[:23]...), 9)
	checkComplex(t, "ConeOf 23 simplices", cone, code, coneOf(complexOf(all[:23]...), 9), impl.OK)
	checkEqual(t, "the number of simplices of a cone", len(cone.Simplices), 47)
	triangles := complexOf(closureOf([][]int64{{1, 5, 8}, {2, 6, 9}})...)
	cone, code = impl.ConeOf(triangles, 4)
	checkComplex(t, "ConeOf triangles", cone, code, complexOf(closureOf([][]int64{{1, 4, 5, 8}, {2, 4, 6, 9}})...), impl.OK)
}

func TestIndexOfNoSimplex(t *testing.T) {
	for what, c := range namedComplexes() {
		for _, s := range wrongSimplices() {
			k, code := impl.IndexOf(c, s)
			checkNumber(t, fmt.Sprintf("IndexOf %.60s and %s", fmt.Sprint(s), what), k, code, 0, impl.ErrInvalid)
		}
	}
}
