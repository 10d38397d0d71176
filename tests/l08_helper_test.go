package tests

import (
	"fmt"
	"math/rand"
	"slices"

	"loop.example/g01005/impl"
)

func verticesOf(c impl.Complex) []int64 { return slices.Concat(simplicesOf(c, 0)...) }

// toldOf returns the vertices told for those of a simplex of a, in their order.
func toldOf(a impl.Complex, images, s []int64) []int64 {
	vertices := verticesOf(a)
	var told []int64
	for _, vertex := range s {
		told = append(told, images[slices.Index(vertices, vertex)])
	}
	return told
}

func imageSimplexOf(a impl.Complex, images, s []int64) []int64 {
	told := toldOf(a, images, s)
	slices.Sort(told)
	return slices.Compact(told)
}

// isMapOf goes by the definition, for valid complexes.
func isMapOf(a, b impl.Complex, images []int64) bool {
	if len(images) != len(simplicesOf(a, 0)) {
		return false
	}
	return !slices.ContainsFunc(a.Simplices, func(s []int64) bool { return indexIn(b.Simplices, imageSimplexOf(a, images, s)) < 0 })
}

func mapImageOf(a impl.Complex, images []int64) impl.Complex {
	var list [][]int64
	for _, s := range a.Simplices {
		list = append(list, imageSimplexOf(a, images, s))
	}
	slices.SortFunc(list, func(s, other []int64) int { return int(orderOf(s, other)) })
	return complexOf(slices.CompactFunc(list, slices.Equal)...)
}

// isTurned reports whether sorting a list takes an odd number of exchanges of neighbours.
func isTurned(list []int64) bool {
	sorted, odd := slices.Clone(list), false
	for range sorted {
		for i := range sorted[1:] {
			if sorted[i] > sorted[i+1] {
				sorted[i], sorted[i+1] = sorted[i+1], sorted[i]
				odd = !odd
			}
		}
	}
	return odd
}

func chainMatrixOf(a, b impl.Complex, images []int64, k, p int64) impl.Matrix {
	rows, columns := simplicesOf(b, k), simplicesOf(a, k)
	return builtMatrix(p, int64(len(rows)), int64(len(columns)), func(i, j int64) int64 {
		if !slices.Equal(imageSimplexOf(a, images, columns[j]), rows[i]) {
			return 0
		}
		if isTurned(toldOf(a, images, columns[j])) {
			return p - 1
		}
		return 1
	})
}

// inducedRankOf adds the images of all cycles to the boundaries; those of boundaries are boundaries themselves.
func inducedRankOf(a, b impl.Complex, images []int64, k, p int64) int64 {
	boundaries := levelOf(b, k, p).boundaries
	m := chainMatrixOf(a, b, images, k, p)
	cycles, _ := impl.CycleBasis(a, k, p)
	rank := int64(0)
	for _, cycle := range cycles {
		if boundaries.add(imageOf(m, cycle)) {
			rank++
		}
	}
	return rank
}

// aMap is a map from a complex to another one.
type aMap struct {
	a, b   impl.Complex
	images []int64
}

func (f aMap) String() string { return fmt.Sprint(f.images, " from ", f.a, " to ", f.b) }

// randomMap returns a map between random complexes; the second one is made of the images of the first one, and more if there is room.
func randomMap(r *rand.Rand) aMap {
	f := aMap{a: randomComplex(r)}
	vertices := r.Perm(impl.MaxVertices)
	kinds := 1 + r.Intn(impl.MaxVertices)
	order := r.Intn(3)
	for i := range simplicesOf(f.a, 0) {
		switch order {
		case 0:
			f.images = append(f.images, int64(vertices[i]))
		case 1:
			f.images = append(f.images, int64(vertices[r.Intn(kinds)]))
		default:
			f.images = append(f.images, verticesOf(f.a)[i])
		}
	}
	list := mapImageOf(f.a, f.images).Simplices
	for range r.Intn(4) {
		if next := closureOf(append(slices.Clone(list), randomSimplex(r))); len(next) <= impl.MaxSimplices {
			list = next
		}
	}
	f.b = complexOf(list...)
	return f
}

func identityOf(c impl.Complex) aMap { return aMap{c, c, verticesOf(c)} }

func constantOf(c, b impl.Complex, vertex int64) aMap {
	return aMap{c, b, filled(len(simplicesOf(c, 0)), vertex)}
}

// renamed returns a map that tells each vertex of a complex a name, in order, and leads to all that it tells.
func renamed(c impl.Complex, names ...int64) aMap {
	images := names[:len(simplicesOf(c, 0))]
	return aMap{c, mapImageOf(c, images), images}
}

// roundTrip leads a ring of more vertices around one of 3 or more, as often as it fits.
func roundTrip(long, short int64) aMap {
	f := aMap{a: ringOf(long), b: ringOf(short)}
	for i := range long {
		f.images = append(f.images, i%short)
	}
	return f
}

func ringOf(count int64) impl.Complex {
	var edges [][]int64
	for i := range count {
		edge := []int64{i, (i + 1) % count}
		slices.Sort(edge)
		edges = append(edges, edge)
	}
	return complexOf(closureOf(edges)...)
}

// namedMaps returns maps of each kind that the document's words lead to.
func namedMaps() map[string]aMap {
	sphere := complexOf(allSimplices(4)[:14]...)
	simplex := complexOf(closureOf([][]int64{{1, 4, 8, 9}})...)
	maps := map[string]aMap{
		"no simplices to none":             {},
		"no simplices to a vertex":         {b: complexOf([]int64{7})},
		"no simplices to a torus":          {b: torus()},
		"a simplex to another order":       {simplex, simplex, []int64{9, 4, 1, 8}},
		"a simplex turned around":          {simplex, simplex, []int64{9, 8, 4, 1}},
		"a simplex to a triangle":          {simplex, simplex, []int64{4, 1, 4, 9}},
		"a simplex to an edge":             {simplex, complexOf(closureOf([][]int64{{0, 3}})...), []int64{3, 0, 0, 3}},
		"a simplex to a vertex":            constantOf(simplex, complexOf([]int64{6}), 6),
		"a sphere with two exchanged":      {sphere, sphere, []int64{1, 0, 2, 3}},
		"a sphere rotated":                 {sphere, sphere, []int64{1, 2, 3, 0}},
		"a sphere in a simplex":            {sphere, complexOf(allSimplices(4)...), []int64{0, 1, 2, 3}},
		"a sphere flat":                    {sphere, sphere, []int64{0, 1, 2, 2}},
		"a torus rotated":                  {torus(), torus(), []int64{1, 2, 3, 4, 5, 6, 0}},
		"a torus turned around":            {torus(), torus(), []int64{0, 6, 5, 4, 3, 2, 1}},
		"a torus with other names":         renamed(torus(), 9, 0, 8, 1, 7, 2, 6),
		"once around":                      roundTrip(7, 7),
		"twice around":                     roundTrip(6, 3),
		"three times around":               roundTrip(9, 3),
		"twice around a ring of 5":         roundTrip(10, 5),
		"a ring folded":                    {ringOf(6), ringOf(6), []int64{0, 1, 2, 3, 2, 1}},
		"points to others":                 {complexOf([]int64{2}, []int64{5}, []int64{7}), complexOf([]int64{0}, []int64{9}), []int64{9, 0, 9}},
		"a projective plane to a simplex":  {projectivePlane(), complexOf(allSimplices(4)...), []int64{0, 1, 2, 3, 3, 0}},
		"a part of a sphere of 3":          {sphere, threeSphere(), []int64{4, 2, 0, 1}},
		"a sphere of 3 with two exchanged": {threeSphere(), threeSphere(), []int64{0, 4, 2, 3, 1}},
	}
	for what, c := range chainComplexes() {
		maps["the identity of "+what] = identityOf(c)
		maps["to a vertex, of "+what] = constantOf(c, complexOf([]int64{4}), 4)
	}
	return maps
}

// wrongImages returns lists that are no maps between the complexes of a map.
func (f aMap) wrongImages() [][]int64 {
	size := len(f.images)
	lists := [][]int64{append(slices.Clone(f.images), 0), append([]int64{0}, f.images...), filled(2*size+1, 0), filled(100000, 0)}
	if size > 0 {
		lists = append(lists, nil, f.images[1:], f.images[:size-1])
	}
	for _, n := range append(outsideVertices(), upTo(impl.MaxVertices)...) {
		if slices.Contains(verticesOf(f.b), n) {
			continue
		}
		lists = append(lists, filled(size+1, n))
		for _, place := range []int{0, size / 2, size - 1} {
			if size > 0 {
				changed := slices.Clone(f.images)
				changed[place] = n
				lists = append(lists, changed)
			}
		}
	}
	return lists
}
