package tests

import (
	"fmt"
	"math"
	"math/rand"
	"slices"
	"strings"
	"testing"

	"loop.example/g01005/impl"
)

// posetOf returns a poset, which may be one that is not valid.
func posetOf(size int64, covers ...[]int64) impl.Poset {
	return impl.Poset{Size: size, Covers: covers}
}

// equalPosets does not rely on SamePoset.
func equalPosets(a, b impl.Poset) bool { return a.Size == b.Size && equalLists(a.Covers, b.Covers) }

// checkPoset checks a result with a code; with a code other than OK, the poset wanted is the zero Poset.
func checkPoset(t *testing.T, what string, got impl.Poset, code int64, want impl.Poset, wantCode int64) {
	t.Helper()
	if !equalPosets(got, want) || code != wantCode {
		t.Errorf("%s: got %v with the code %q, want %v with %q", what, got, impl.CodeName(code), want, impl.CodeName(wantCode))
	}
}

// checkNoPoset checks that there is no result but a code.
func checkNoPoset(t *testing.T, what string, got impl.Poset, code, wantCode int64) {
	t.Helper()
	checkPoset(t, what, got, code, impl.Poset{}, wantCode)
}

// relation tells of two elements whether the first one is below the second one.
type relation [][]bool

// emptyRelation relates no elements.
func emptyRelation(size int64) relation {
	r := make(relation, size)
	for a := range r {
		r[a] = make([]bool, size)
	}
	return r
}

// relationOf climbs along chains of pairs, as the definition says.
func relationOf(size int64, pairs [][]int64) relation {
	r := emptyRelation(size)
	for a := range size {
		var climb func(b int64)
		climb = func(b int64) {
			if r[a][b] {
				return
			}
			r[a][b] = true
			for _, pair := range pairs {
				if pair[0] == b {
					climb(pair[1])
				}
			}
		}
		climb(a)
	}
	return r
}

// isCovered reports whether a is below b, and no other element is between them.
func (r relation) isCovered(a, b int64) bool {
	for x := range int64(len(r)) {
		if x != a && x != b && r[a][x] && r[x][b] {
			return false
		}
	}
	return a != b && r[a][b]
}

// covers returns the pairs of a poset with a relation.
func (r relation) covers() [][]int64 {
	var covers [][]int64
	for a := range int64(len(r)) {
		for b := range int64(len(r)) {
			if r.isCovered(a, b) {
				covers = append(covers, []int64{a, b})
			}
		}
	}
	return covers
}

// pairs returns all pairs that are related.
func (r relation) pairs() [][]int64 {
	var pairs [][]int64
	for a := range r {
		for b := range r {
			if r[a][b] {
				pairs = append(pairs, []int64{int64(a), int64(b)})
			}
		}
	}
	return pairs
}

// isOrder reports whether no two different elements are below each other.
func (r relation) isOrder() bool {
	return !slices.ContainsFunc(r.pairs(), func(pair []int64) bool { return pair[0] != pair[1] && r[pair[1]][pair[0]] })
}

// isTransitive reports whether all that follows from pairs is related.
func (r relation) isTransitive() bool {
	for _, pair := range r.pairs() {
		for b := range r {
			if r[pair[1]][b] && !r[pair[0]][b] {
				return false
			}
		}
	}
	return true
}

// isPoset goes by the definition.
func isPoset(p impl.Poset) bool {
	if p.Size < 0 || p.Size > 12 || len(p.Covers) > 30 {
		return false
	}
	for i, pair := range p.Covers {
		if len(pair) != 2 || pair[0] < 0 || pair[0] >= p.Size || pair[1] < 0 || pair[1] >= p.Size {
			return false
		}
		if i > 0 && slices.Compare(p.Covers[i-1], pair) >= 0 {
			return false
		}
	}
	r := relationOf(p.Size, p.Covers)
	return r.isOrder() && !slices.ContainsFunc(p.Covers, func(pair []int64) bool { return !r.isCovered(pair[0], pair[1]) })
}

// madeOf returns the poset of pairs of elements and its code by the definition.
func madeOf(size int64, pairs [][]int64) (impl.Poset, int64) {
	r := relationOf(size, pairs)
	if !r.isOrder() {
		return impl.Poset{}, impl.ErrState
	}
	p := posetOf(size, r.covers()...)
	if len(p.Covers) > impl.MaxCovers {
		return impl.Poset{}, impl.ErrFull
	}
	return p, impl.OK
}

// withGreatest returns a relation with a further element, which is above some elements and below others.
func (r relation) withGreatest(lower, upper int) relation {
	size := len(r)
	next := emptyRelation(int64(size + 1))
	next[size][size] = true
	for a := range size {
		copy(next[a], r[a])
		next[a][size] = lower>>a&1 == 1
		next[size][a] = upper>>a&1 == 1
	}
	return next
}

// smallPosets returns all posets of a size: each one goes on from what it is without its last element.
func smallPosets(size int64) []impl.Poset {
	relations := []relation{{}}
	for count := range size {
		var next []relation
		for _, r := range relations {
			for number := range 1 << (2 * count) {
				if s := r.withGreatest(number>>count, number&(1<<count-1)); s.isOrder() && s.isTransitive() {
					next = append(next, s)
				}
			}
		}
		relations = next
	}
	var posets []impl.Poset
	for _, r := range relations {
		posets = append(posets, posetOf(size, r.covers()...))
	}
	return posets
}

// randomPairs returns pairs without a circle, in any order; either some of them follow from others, or there are two layers.
func randomPairs(r *rand.Rand, size int64) [][]int64 {
	places := r.Perm(int(size))
	chance, layered := r.Float64(), r.Intn(3) == 0
	var pairs [][]int64
	for i := range places {
		for k := range i {
			isWanted := r.Float64() < chance*chance
			if layered {
				isWanted = k < len(places)/2 && i >= len(places)/2 && r.Float64() < 0.7+0.3*chance
			}
			if isWanted {
				pairs = append(pairs, []int64{int64(places[k]), int64(places[i])})
			}
		}
	}
	r.Shuffle(len(pairs), func(i, k int) { pairs[i], pairs[k] = pairs[k], pairs[i] })
	return pairs
}

// randomPoset returns a valid poset of any size.
func randomPoset(r *rand.Rand) impl.Poset {
	for {
		size := r.Int63n(impl.MaxElements + 1)
		if p, code := madeOf(size, randomPairs(r, size)); code == impl.OK {
			return p
		}
	}
}

// chainOf returns the poset in which each element of a list is below all behind it.
func chainOf(size int64, list ...int64) impl.Poset {
	var pairs [][]int64
	for i := range list[:max(0, len(list)-1)] {
		pairs = append(pairs, []int64{list[i], list[i+1]})
	}
	return posetOf(size, relationOf(size, pairs).covers()...)
}

// upTo returns the numbers less than size.
func upTo(size int64) []int64 {
	var list []int64
	for n := range size {
		list = append(list, n)
	}
	return list
}

// layersOf returns the poset whose elements are in layers, each one below all of the layers behind its own.
func layersOf(sizes ...int64) impl.Poset {
	var pairs [][]int64
	first := int64(0)
	for i, size := range sizes[:len(sizes)-1] {
		for a := first; a < first+size; a++ {
			for b := first + size; b < first+size+sizes[i+1]; b++ {
				pairs = append(pairs, []int64{a, b})
			}
		}
		first += size
	}
	return posetOf(first+sizes[len(sizes)-1], pairs...)
}

// comparedBy returns the poset of a size whose elements a comparison relates.
func comparedBy(size int64, isBelow func(a, b int64) bool) impl.Poset {
	r := emptyRelation(size)
	for a := range size {
		for b := range size {
			r[a][b] = isBelow(a, b)
		}
	}
	return posetOf(size, r.covers()...)
}

// dividers are the numbers by which 60 can be divided.
func dividers() []int64 { return []int64{1, 2, 3, 4, 5, 6, 10, 12, 15, 20, 30, 60} }

// namedPosets returns posets at the limits and some with known numbers.
func namedPosets() map[string]impl.Poset {
	numbers := dividers()
	return map[string]impl.Poset{
		"no elements":          {},
		"an element":           posetOf(1),
		"two elements":         posetOf(2),
		"a pair":               posetOf(2, []int64{0, 1}),
		"a pair downwards":     posetOf(2, []int64{1, 0}),
		"a pair of the last":   posetOf(12, []int64{10, 11}),
		"not comparable":       posetOf(12),
		"a chain":              chainOf(12, upTo(12)...),
		"a chain downwards":    chainOf(12, 11, 10, 9, 8, 7, 6, 5, 4, 3, 2, 1, 0),
		"a chain in disorder":  chainOf(12, 5, 11, 0, 3, 10, 1, 7, 2, 9, 4, 8, 6),
		"two chains":           comparedBy(12, func(a, b int64) bool { return a <= b && a%2 == b%2 }),
		"a fence":              comparedBy(12, func(a, b int64) bool { return a == b || a%2 == 0 && (b == a+1 || b == a-1) }),
		"a tree":               comparedBy(12, func(a, b int64) bool { return isAncestor(a+1, b+1) }),
		"a tree downwards":     comparedBy(12, func(a, b int64) bool { return isAncestor(12-b, 12-a) }),
		"parts of a set":       comparedBy(8, func(a, b int64) bool { return a&b == a }),
		"divisibility":         comparedBy(12, func(a, b int64) bool { return numbers[b]%numbers[a] == 0 }),
		"a grid":               comparedBy(12, func(a, b int64) bool { return a%4 <= b%4 && a/4 <= b/4 }),
		"a ladder":             comparedBy(12, func(a, b int64) bool { return a%2 <= b%2 && a/2 <= b/2 }),
		"ten between":          layersOf(1, 10, 1),
		"as many covers":       layersOf(5, 6),
		"as many, downwards":   comparedBy(11, func(a, b int64) bool { return a == b || a >= 6 && b < 6 }),
		"as many, in layers":   layersOf(1, 3, 4, 3, 1),
		"as many, in disorder": comparedBy(12, func(a, b int64) bool { return a == b || a != 7 && b != 7 && a%2 == 1 && b%2 == 0 }),
	}
}

// isAncestor reports whether halving b leads to a.
func isAncestor(a, b int64) bool { return a == b || b > 1 && isAncestor(a, b/2) }

// somePosets returns all posets of the small sizes, those with names, and random ones.
func somePosets(seed int64, most int64, random int) []impl.Poset {
	var posets []impl.Poset
	for size := range most + 1 {
		posets = append(posets, smallPosets(size)...)
	}
	named := namedPosets()
	for _, what := range sortedNames(named) {
		posets = append(posets, named[what])
	}
	r := rand.New(rand.NewSource(seed))
	for range random {
		posets = append(posets, randomPoset(r))
	}
	return posets
}

// outsideElements are numbers that are elements of no poset, some of which look like elements if bits are lost.
func outsideElements() []int64 {
	return []int64{-1, 12, -2, 13, 15, 16, 17, 31, 32, 63, 64, 65, 127, 128, 256, -12, -64, 1 << 16, 1 << 32, -1 << 32, 1<<32 + 1, 1 << 62, math.MinInt64, math.MinInt64 + 1, math.MaxInt64 - 1, math.MaxInt64}
}

// wrongSizes are numbers that are no sizes.
func wrongSizes() []int64 {
	return append(slices.DeleteFunc(outsideElements(), func(n int64) bool { return n == 12 }), -3, 14, 100000)
}

// wrongPairs are lists that are no pairs of two elements of a poset of a size.
func wrongPairs(size int64) [][]int64 {
	list := [][]int64{nil, {}, {0}, {1}, {0, 1, 2}, {0, 1, 0}, {0, 0, 1}, {0, 1, -1}, {0, 1, 1, 2}, filled(100000, 0)}
	for _, n := range append(outsideElements(), size) {
		list = append(list, []int64{n}, []int64{n, 0}, []int64{0, n}, []int64{n, n}, []int64{0, 1, n}, []int64{size - 1, n}, []int64{n, size - 1})
	}
	return list
}

// wrongPosets returns posets of which each one is not valid for one reason.
func wrongPosets() map[string]impl.Poset {
	wrong := map[string]impl.Poset{
		"an element with itself":       posetOf(1, []int64{0, 0}),
		"an element with itself, last": posetOf(3, []int64{0, 1}, []int64{2, 2}),
		"a circle of two":              posetOf(2, []int64{0, 1}, []int64{1, 0}),
		"a circle of three":            posetOf(3, []int64{0, 1}, []int64{1, 2}, []int64{2, 0}),
		"a circle of twelve":           posetOf(12, append(chainOf(12, upTo(12)...).Covers, []int64{11, 0})...),
		"a circle above":               posetOf(4, []int64{0, 1}, []int64{1, 2}, []int64{2, 3}, []int64{3, 1}),
		"a circle below":               posetOf(4, []int64{0, 1}, []int64{1, 0}, []int64{1, 2}, []int64{2, 3}),
		"pairs in another order":       posetOf(3, []int64{0, 2}, []int64{0, 1}),
		"pairs by their second":        posetOf(4, []int64{2, 1}, []int64{0, 3}),
		"pairs in the order of texts":  posetOf(12, []int64{10, 11}, []int64{2, 3}),
		"a pair twice":                 posetOf(2, []int64{0, 1}, []int64{0, 1}),
		"a pair again":                 posetOf(3, []int64{0, 1}, []int64{0, 2}, []int64{0, 1}),
		"a pair that follows":          posetOf(3, []int64{0, 1}, []int64{0, 2}, []int64{1, 2}),
		"a pair that follows from 11":  posetOf(12, slices.Insert(chainOf(12, upTo(12)...).Covers, 1, []int64{0, 11})...),
		"a pair that follows from 3":   posetOf(4, []int64{0, 1}, []int64{1, 2}, []int64{1, 3}, []int64{2, 3}),
		"a pair without elements":      posetOf(0, []int64{0, 0}),
		"a pair with one element":      posetOf(1, []int64{0, 1}),
		"a pair too many":              posetOf(12, slices.Insert(layersOf(5, 6).Covers, 6, []int64{0, 11})...),
		"six pairs too many":           layersOf(6, 6),
		"five pairs too many":          layersOf(5, 7),
		"a great many pairs":           posetOf(12, slices.Repeat([][]int64{{0, 1}}, 100000)...),
		"all pairs":                    posetOf(12, relationOf(12, chainOf(12, upTo(12)...).Covers).pairs()...),
	}
	for _, size := range wrongSizes() {
		wrong[fmt.Sprint("the size ", size)] = posetOf(size)
		wrong[fmt.Sprint("the size ", size, " and a pair")] = posetOf(size, []int64{0, 1})
	}
	for i, pair := range wrongPairs(3) {
		if len(pair) < 100 {
			wrong[fmt.Sprint("the pair alone, ", i, ", ", pair)] = posetOf(3, pair)
			wrong[fmt.Sprint("the first pair, ", i, ", ", pair)] = posetOf(3, pair, []int64{2, 1})
			wrong[fmt.Sprint("the last pair, ", i, ", ", pair)] = posetOf(3, []int64{0, 1}, pair)
		}
	}
	wrong["a pair of many numbers"] = posetOf(12, filled(100000, 0))
	return wrong
}

// posetTextOf returns the text of a poset by the document.
func posetTextOf(p impl.Poset) string {
	text := fmt.Sprint(p.Size)
	for _, pair := range p.Covers {
		text += " " + strings.Join(strings.Fields(strings.Trim(fmt.Sprint(pair), "[]")), "<")
	}
	return text
}
