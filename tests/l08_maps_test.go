package tests

import (
	"fmt"
	"math/rand"
	"slices"
	"testing"

	"loop.example/g01005/impl"
)

// checkMap checks all functions of the images of simplices.
func checkMap(t *testing.T, f aMap) {
	t.Helper()
	checkEqual(t, fmt.Sprint("IsMap of ", f), impl.IsMap(f.a, f.b, f.images), true)
	fibres := make([][]int64, len(f.b.Simplices))
	for k, s := range f.a.Simplices {
		want := indexIn(f.b.Simplices, imageSimplexOf(f.a, f.images, s))
		got, code := impl.SimplexImage(f.a, f.b, f.images, int64(k))
		checkNumber(t, fmt.Sprint("SimplexImage of ", k, " of ", f), got, code, want, impl.OK)
		fibres[want] = append(fibres[want], int64(k))
	}
	for m, want := range fibres {
		fibre, code := impl.FibreOf(f.a, f.b, f.images, int64(m))
		checkVector(t, fmt.Sprint("FibreOf ", m, " of ", f), fibre, code, want, impl.OK)
	}
	image, code := impl.MapImage(f.a, f.b, f.images)
	checkComplex(t, fmt.Sprint("MapImage of ", f), image, code, mapImageOf(f.a, f.images), impl.OK)
}

// TestAllSmallMaps goes through all lists, with complexes of up to 3 vertices.
func TestAllSmallMaps(t *testing.T) {
	t.Parallel()
	lists := listsOf([]int64{-1, 0, 1, 2, 3}, 4)
	count := 0
	for _, a := range smallComplexes(3) {
		for _, b := range smallComplexes(3) {
			for _, images := range lists {
				if isMapOf(a, b, images) {
					checkMap(t, aMap{a, b, images})
					count++
				} else if impl.IsMap(a, b, images) {
					t.Errorf("IsMap of %v: got true", aMap{a, b, images})
				}
			}
		}
	}
	checkEqual(t, "whether there are maps", count > 2000, true)
}

// TestMapsOfLargerComplexes takes random lists besides maps.
func TestMapsOfLargerComplexes(t *testing.T) {
	t.Parallel()
	for _, f := range namedMaps() {
		checkMap(t, f)
	}
	r := rand.New(rand.NewSource(81))
	all := smallComplexes(4)
	for range 400 {
		f := randomMap(r)
		checkMap(t, f)
		if len(f.images) > 0 {
			f.images = slices.Clone(f.images)
			f.images[r.Intn(len(f.images))] = r.Int63n(impl.MaxVertices)
			checkEqual(t, fmt.Sprint("IsMap of ", f), impl.IsMap(f.a, f.b, f.images), isMapOf(f.a, f.b, f.images))
		}
	}
	for range 20000 {
		f := aMap{a: all[r.Intn(len(all))], b: all[r.Intn(len(all))]}
		f.images = randomVector(r, 5, len(simplicesOf(f.a, 0)))
		checkEqual(t, fmt.Sprint("IsMap of ", f), impl.IsMap(f.a, f.b, f.images), isMapOf(f.a, f.b, f.images))
	}
}

// TestImagesAreNoSimplices takes maps of all vertices under which the image of just one larger simplex is missing.
func TestImagesAreNoSimplices(t *testing.T) {
	whole := allSimplices(5)
	for _, missing := range whole[5:] {
		a := complexOf(closureOf([][]int64{missing})...)
		lacks := partOf(complexOf(whole...), func(s []int64) bool { return !isFaceOf(missing, s) })
		checkEqual(t, fmt.Sprint("IsMap to all"), impl.IsMap(a, complexOf(whole...), missing), true)
		checkEqual(t, fmt.Sprint("IsMap to all without ", missing), impl.IsMap(a, lacks, missing), false)
		turned := slices.Clone(missing)
		slices.Reverse(turned)
		checkEqual(t, fmt.Sprint("IsMap to all without ", missing, ", turned around"), impl.IsMap(a, lacks, turned), false)
		// With two vertices told the same one, the image is a face, and not missing.
		turned[0] = turned[1]
		checkMap(t, aMap{a, lacks, turned})
	}
}

// TestMapsOfNoSimplices: the empty list is the only map from the complex without simplices, and no list is one to it from another complex.
func TestMapsOfNoSimplices(t *testing.T) {
	for _, c := range namedComplexes() {
		for _, none := range []impl.Complex{{}, {Simplices: [][]int64{}}} {
			for _, images := range [][]int64{nil, {}} {
				checkMap(t, aMap{none, c, images})
				checkEqual(t, "IsMap to no simplices", impl.IsMap(c, none, images), len(c.Simplices) == 0)
			}
			checkEqual(t, "IsMap with too many images", impl.IsMap(none, c, []int64{0}), false)
			if images := verticesOf(c); len(images) > 0 {
				checkEqual(t, "IsMap to no simplices, of vertices", impl.IsMap(c, none, images), false)
			}
		}
	}
}

// checkComposition checks ComposeMaps with maps of which the second one goes on from where the first one leads to.
func checkComposition(t *testing.T, f, g aMap) aMap {
	t.Helper()
	want := aMap{f.a, g.b, make([]int64, len(f.images))}
	for i, vertex := range f.images {
		want.images[i] = toldOf(g.a, g.images, []int64{vertex})[0]
	}
	both, code := impl.ComposeMaps(f.a, f.b, g.b, f.images, g.images)
	checkVector(t, fmt.Sprint("ComposeMaps of ", f, " and ", g), both, code, want.images, impl.OK)
	checkMap(t, want)
	return want
}

// randomNext returns a map that goes on from where another one leads to.
func randomNext(r *rand.Rand, f aMap) aMap {
	var images []int64
	kinds := 1 + r.Intn(impl.MaxVertices)
	for range simplicesOf(f.b, 0) {
		images = append(images, int64(r.Intn(kinds)))
	}
	return renamed(f.b, images...)
}

func TestComposeMaps(t *testing.T) {
	t.Parallel()
	for _, f := range namedMaps() {
		checkComposition(t, identityOf(f.a), f)
		checkComposition(t, f, identityOf(f.b))
	}
	small := smallMaps(t)
	for _, f := range small {
		for _, g := range small {
			if equalComplexes(f.b, g.a) {
				checkComposition(t, f, g)
			}
		}
	}
	r := rand.New(rand.NewSource(82))
	for range 200 {
		f := randomMap(r)
		checkComposition(t, f, randomNext(r, f))
	}
	turn := namedMaps()["a torus rotated"]
	seven := identityOf(torus())
	for range 7 {
		seven = checkComposition(t, seven, turn)
	}
	checkEqual(t, "seven rotations of a torus", seven.images, []int64{0, 1, 2, 3, 4, 5, 6})
}

// smallMaps returns all maps between complexes of up to 2 vertices.
func smallMaps(t *testing.T) []aMap {
	var all []aMap
	for _, a := range smallComplexes(2) {
		for _, b := range smallComplexes(2) {
			for _, images := range listsOf([]int64{0, 1}, 2) {
				if isMapOf(a, b, images) {
					all = append(all, aMap{a, b, images})
				}
			}
		}
	}
	// From none to each of 5; to one vertex from the 3 others without an edge and that with one; and so on.
	checkEqual(t, "the number of small maps", len(all), 5+2*(1+1+2+2)+(1+1+4+4)+(1+1+2+4))
	return all
}

// TestKnownImages takes the document's complexes, and some whose vertices are not 0, 1, 2 and so on.
func TestKnownImages(t *testing.T) {
	far, _ := impl.ReadComplex("3/2,5,9")
	near, _ := impl.ReadComplex("7/1,4")
	images := []int64{4, 7, 1, 4}
	for k, want := range []int64{1, 2, 0, 1, 3, 1, 3, 3} {
		got, code := impl.SimplexImage(far, near, images, int64(k))
		checkNumber(t, fmt.Sprint("SimplexImage of ", k), got, code, want, impl.OK)
	}
	for m, want := range [][]int64{{2}, {0, 3, 5}, {1}, {4, 6, 7}} {
		fibre, code := impl.FibreOf(far, near, images, int64(m))
		checkVector(t, fmt.Sprint("FibreOf ", m), fibre, code, want, impl.OK)
	}
	image, _ := impl.MapImage(far, near, images)
	checkEqual(t, "the text of the image", impl.ComplexText(image), "7/1,4")
	image, _ = impl.MapImage(far, near, []int64{4, 4, 4, 1})
	checkEqual(t, "the text of the second image", impl.ComplexText(image), "1,4")
	// No simplex has an image outside.
	fibre, code := impl.FibreOf(far, near, []int64{4, 4, 4, 1}, 2)
	checkVector(t, "FibreOf a vertex outside", fibre, code, nil, impl.OK)
	both, code := impl.ComposeMaps(far, near, far, images, []int64{9, 3, 2})
	checkVector(t, "ComposeMaps", both, code, nil, impl.ErrOrder)
	both, code = impl.ComposeMaps(far, near, far, images, []int64{9, 5, 3})
	checkVector(t, "ComposeMaps", both, code, []int64{5, 3, 9, 5}, impl.OK)
}
