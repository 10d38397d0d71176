package tests

import (
	"fmt"
	"math/rand"
	"slices"
	"testing"

	"loop.example/g01005/impl"
)

// quotientOf goes through the Basis of a as the document says; it is meant for few vectors.
func quotientOf(a, b impl.Space) [][]int64 {
	reached := slices.Clone(b.Basis)
	var taken [][]int64
	for _, x := range a.Basis {
		if !reachedFrom(a.Prime, a.Length, reached)[numberOf(x, a.Prime)] {
			reached = append(reached, x)
			taken = append(taken, x)
		}
	}
	return taken
}

// isPart reports whether all of a set are in another one.
func isPart(part, whole members) bool {
	for n := range part {
		if part[n] && !whole[n] {
			return false
		}
	}
	return true
}

func TestAllPairsOfSmallSpaces(t *testing.T) {
	t.Parallel()
	for _, s := range smallShapes() {
		p, length := s[0], s[1]
		spaces := spacesByMembers(p, length)
		sets := map[string]members{}
		for key, v := range spaces {
			sets[key] = reachedFrom(p, length, v.Basis)
		}
		for keyA, a := range spaces {
			for keyB, b := range spaces {
				what := fmt.Sprint(" of ", a, " and ", b)
				sum, code := impl.SumSpaces(a, b)
				checkSpace(t, "SumSpaces"+what, sum, code, spaces[fmt.Sprint(reachedFrom(p, length, slices.Concat(a.Basis, b.Basis)))], impl.OK)
				both := selected(p, length, func(v []int64) bool { return sets[keyA][numberOf(v, p)] && sets[keyB][numberOf(v, p)] })
				meet, code := impl.MeetSpaces(a, b)
				checkSpace(t, "MeetSpaces"+what, meet, code, spaces[fmt.Sprint(both)], impl.OK)
				checkEqual(t, "the dimensions of the sum and the intersection"+what, len(sum.Basis)+len(meet.Basis), len(a.Basis)+len(b.Basis))

				quotient, code := impl.QuotientOf(a, b)
				if isPart(sets[keyB], sets[keyA]) {
					checkLists(t, "QuotientOf"+what, quotient, code, quotientOf(a, b), impl.OK)
					checkEqual(t, "the number of vectors of QuotientOf"+what, len(quotient), len(a.Basis)-len(b.Basis))
				} else {
					checkLists(t, "QuotientOf"+what, quotient, code, nil, impl.ErrState)
				}
			}
		}
	}
}

// complementOf returns the space of the unit vectors that the document names.
func complementOf(v impl.Space) impl.Space {
	complement := spaceOf(v.Prime, v.Length)
	for place, unit := range fullSpace(v.Prime, v.Length).Basis {
		if !slices.ContainsFunc(v.Basis, func(row []int64) bool { return firstPlace(row) == place }) {
			complement.Basis = append(complement.Basis, unit)
		}
	}
	return complement
}

func TestAllSmallOrthogonalSpacesAndComplements(t *testing.T) {
	for _, s := range smallShapes() {
		p, length := s[0], s[1]
		spaces := spacesByMembers(p, length)
		for _, v := range spaces {
			set := selected(p, length, func(x []int64) bool {
				return !slices.ContainsFunc(v.Basis, func(row []int64) bool { return dotOf(row, x, p) != 0 })
			})
			orthogonal, code := impl.OrthogonalOf(v)
			checkSpace(t, fmt.Sprint("OrthogonalOf ", v), orthogonal, code, spaces[fmt.Sprint(set)], impl.OK)
			complement, code := impl.ComplementOf(v)
			checkSpace(t, fmt.Sprint("ComplementOf ", v), complement, code, complementOf(v), impl.OK)
			checkEqual(t, "ValidSpace of the complement", impl.ValidSpace(complement), true)
		}
	}
}

// checkLaws checks what must hold for any two spaces of the same length.
func checkLaws(t *testing.T, a, b impl.Space) {
	t.Helper()
	sum, code := impl.SumSpaces(a, b)
	checkEqual(t, "whether the sum is valid", impl.ValidSpace(sum) && code == impl.OK, true)
	meet, code := impl.MeetSpaces(a, b)
	checkEqual(t, "whether the intersection is valid", impl.ValidSpace(meet) && code == impl.OK, true)
	checkEqual(t, "the dimensions of the sum and the intersection", len(sum.Basis)+len(meet.Basis), len(a.Basis)+len(b.Basis))
	turned, code := impl.SumSpaces(b, a)
	checkSpace(t, "the sum, exchanged", turned, code, sum, impl.OK)
	turned, code = impl.MeetSpaces(b, a)
	checkSpace(t, "the intersection, exchanged", turned, code, meet, impl.OK)
	for _, part := range []impl.Space{a, b} {
		for _, x := range part.Basis {
			checkEqual(t, "whether a vector is in the sum", impl.ContainsVector(sum, x), true)
		}
		for _, x := range meet.Basis {
			checkEqual(t, "whether a vector of the intersection is in both", impl.ContainsVector(part, x), true)
		}
		checkQuotient(t, sum, part)
		checkQuotient(t, part, meet)
	}
}

// checkQuotient checks the vectors that extend a part of a space to the space.
func checkQuotient(t *testing.T, whole, part impl.Space) {
	t.Helper()
	quotient, code := impl.QuotientOf(whole, part)
	checkEqual(t, "the number of vectors of QuotientOf", len(quotient), len(whole.Basis)-len(part.Basis))
	again, _ := impl.SpaceOf(whole.Prime, whole.Length, slices.Concat(part.Basis, quotient))
	checkSpace(t, "the part and QuotientOf", again, code, whole, impl.OK)
	// Each vector that was not taken is a sum of those before it.
	at := 0
	for _, x := range whole.Basis {
		if at < len(quotient) && slices.Equal(x, quotient[at]) {
			at++
			continue
		}
		before, _ := impl.SpaceOf(whole.Prime, whole.Length, slices.Concat(part.Basis, quotient[:at]))
		checkEqual(t, "whether a vector that was not taken can be reached", impl.ContainsVector(before, x), true)
	}
	checkEqual(t, "how many vectors are found in the Basis in order", at, len(quotient))
	if len(quotient) > 0 {
		back, code := impl.QuotientOf(part, whole)
		checkLists(t, "QuotientOf by a greater space", back, code, nil, impl.ErrState)
	}
}

// checkCounterparts checks what must hold for the orthogonal space and the complement.
func checkCounterparts(t *testing.T, v impl.Space) {
	t.Helper()
	orthogonal, code := impl.OrthogonalOf(v)
	checkEqual(t, "the dimension of the orthogonal space", len(orthogonal.Basis), int(v.Length)-len(v.Basis))
	for _, x := range orthogonal.Basis {
		for _, y := range v.Basis {
			checkNumber(t, "the dot product with the orthogonal space", dotOf(x, y, v.Prime), code, 0, impl.OK)
		}
	}
	checkEqual(t, "ValidSpace of the orthogonal space", impl.ValidSpace(orthogonal), true)
	back, code := impl.OrthogonalOf(orthogonal)
	checkSpace(t, "the space orthogonal to the orthogonal space", back, code, v, impl.OK)
	complement, code := impl.ComplementOf(v)
	checkSpace(t, "ComplementOf", complement, code, complementOf(v), impl.OK)
	sum, code := impl.SumSpaces(v, complement)
	checkSpace(t, "a space and its complement", sum, code, fullSpace(v.Prime, v.Length), impl.OK)
	meet, code := impl.MeetSpaces(v, complement)
	checkSpace(t, "what a space and its complement have in common", meet, code, spaceOf(v.Prime, v.Length), impl.OK)
}

func TestLawsOfRandomSpaces(t *testing.T) {
	t.Parallel()
	r := rand.New(rand.NewSource(12))
	for _, p := range []int64{2, 5, impl.MaxPrime} {
		for _, length := range someSides() {
			var spaces []impl.Space
			for _, dimension := range []int64{0, r.Int63n(length + 1), r.Int63n(length + 1), length} {
				spaces = append(spaces, randomSpace(r, p, length, dimension))
			}
			// These have something in common with others.
			a, b := spaces[1], spaces[2]
			sum, _ := impl.SpaceOf(p, length, slices.Concat(a.Basis[:len(a.Basis)/2], b.Basis[len(b.Basis)/2:]))
			spaces = append(spaces, sum)
			for i, a := range spaces {
				checkCounterparts(t, a)
				for _, b := range spaces[i:] {
					checkLaws(t, a, b)
				}
			}
		}
	}
}

func TestSpacesOfTheDimensionZeroAndOfTheFullDimension(t *testing.T) {
	t.Parallel()
	r := rand.New(rand.NewSource(13))
	for _, p := range allPrimes() {
		for _, length := range someSides() {
			zero, full, v := spaceOf(p, length), fullSpace(p, length), randomSpace(r, p, length, r.Int63n(length+1))
			for _, other := range []impl.Space{zero, full, v} {
				sum, code := impl.SumSpaces(zero, other)
				checkSpace(t, "the sum with the dimension 0", sum, code, other, impl.OK)
				sum, code = impl.SumSpaces(full, other)
				checkSpace(t, "the sum with the full dimension", sum, code, full, impl.OK)
				meet, code := impl.MeetSpaces(zero, other)
				checkSpace(t, "the intersection with the dimension 0", meet, code, zero, impl.OK)
				meet, code = impl.MeetSpaces(full, other)
				checkSpace(t, "the intersection with the full dimension", meet, code, other, impl.OK)
				quotient, code := impl.QuotientOf(other, zero)
				checkLists(t, "QuotientOf by the dimension 0", quotient, code, other.Basis, impl.OK)
				quotient, code = impl.QuotientOf(other, other)
				checkLists(t, "QuotientOf by the same space", quotient, code, nil, impl.OK)
				quotient, code = impl.QuotientOf(full, other)
				checkLists(t, "QuotientOf the full dimension", quotient, code, quotientOfFull(other), impl.OK)
			}
			for _, pair := range [][2]impl.Space{{zero, full}, {full, zero}} {
				orthogonal, code := impl.OrthogonalOf(pair[0])
				checkSpace(t, "OrthogonalOf at a limit", orthogonal, code, pair[1], impl.OK)
				complement, code := impl.ComplementOf(pair[0])
				checkSpace(t, "ComplementOf at a limit", complement, code, pair[1], impl.OK)
			}
			if length > 0 {
				quotient, code := impl.QuotientOf(zero, full)
				checkLists(t, "QuotientOf the dimension 0 by more", quotient, code, nil, impl.ErrState)
			}
		}
	}
}

// quotientOfFull takes the unit vectors at whose places no vector of the space ends: such a vector would reach the unit vector there from those before it.
func quotientOfFull(v impl.Space) [][]int64 {
	turned := spaceOf(v.Prime, v.Length)
	m := matrixOf(v.Prime, int64(len(v.Basis)), v.Length, slices.Concat(v.Basis...)...)
	for i := range m.Rows {
		slices.Reverse(rowOf(m, i))
	}
	turned, _ = impl.SpaceOf(v.Prime, v.Length, rowsOf(m))
	units := complementOf(turned).Basis
	for _, unit := range units {
		slices.Reverse(unit)
	}
	slices.Reverse(units)
	return units
}

func TestSpacesThatAreOrthogonalToThemselves(t *testing.T) {
	plane := spaceOf(2, 2, []int64{1, 1})
	orthogonal, code := impl.OrthogonalOf(plane)
	checkSpace(t, "the document's space", orthogonal, code, plane, impl.OK)
	for _, v := range []impl.Space{plane, spaceOf(5, 2, []int64{1, 2}), spaceOf(3, 4, []int64{1, 0, 1, 1}, []int64{0, 1, 1, 2}), spaceOf(13, 2, []int64{1, 5}), spaceOf(2, 0)} {
		orthogonal, code := impl.OrthogonalOf(v)
		checkSpace(t, "a space that is orthogonal to itself", orthogonal, code, v, impl.OK)
		checkLaws(t, v, orthogonal)
	}
	halves := spaceOf(2, impl.MaxSide)
	for i := range impl.MaxSide / 2 {
		row := filled(impl.MaxSide, 0)
		row[2*i], row[2*i+1] = 1, 1
		halves.Basis = append(halves.Basis, row)
	}
	orthogonal, code = impl.OrthogonalOf(halves)
	checkSpace(t, "a great space that is orthogonal to itself", orthogonal, code, halves, impl.OK)
	meet, code := impl.MeetSpaces(halves, orthogonal)
	checkSpace(t, "its intersection with its orthogonal space", meet, code, halves, impl.OK)
}

// spacePairs are the functions of two spaces, of whose results only the basis is told, and more only beside a code.
func spacePairs() map[string]func(a, b impl.Space) ([][]int64, int64) {
	basis := func(call func(a, b impl.Space) (impl.Space, int64)) func(a, b impl.Space) ([][]int64, int64) {
		return func(a, b impl.Space) ([][]int64, int64) {
			v, code := call(a, b)
			if code != impl.OK && (v.Prime != 0 || v.Length != 0) {
				return append(v.Basis, []int64{v.Prime, v.Length}), code
			}
			return v.Basis, code
		}
	}
	return map[string]func(a, b impl.Space) ([][]int64, int64){
		"SumSpaces":  basis(impl.SumSpaces),
		"MeetSpaces": basis(impl.MeetSpaces),
		"QuotientOf": impl.QuotientOf,
	}
}

func TestPairsOfSpacesThatDoNotFit(t *testing.T) {
	t.Parallel()
	for what, call := range spacePairs() {
		for _, p := range somePrimes() {
			for _, length := range someSides() {
				for _, otherLength := range someSides() {
					for _, other := range somePrimes() {
						if other == p && otherLength == length {
							continue
						}
						for _, b := range []impl.Space{spaceOf(other, otherLength), fullSpace(other, otherLength)} {
							got, code := call(spaceOf(p, length), b)
							checkLists(t, what+" of other shapes", got, code, nil, impl.ErrState)
							got, code = call(fullSpace(p, length), b)
							checkLists(t, what+" of other shapes", got, code, nil, impl.ErrState)
						}
					}
				}
			}
		}
		// A space that is not valid comes before all else.
		for reason, wrong := range wrongSpaces() {
			for _, v := range []impl.Space{spaceOf(3, 2), fullSpace(3, 2), fullSpace(3, 1), spaceOf(3, 0), spaceOf(5, 2, []int64{0, 1}), wrong} {
				got, code := call(wrong, v)
				checkLists(t, what+" with "+reason, got, code, nil, impl.ErrInvalid)
				got, code = call(v, wrong)
				checkLists(t, what+" with "+reason+" behind", got, code, nil, impl.ErrInvalid)
			}
		}
	}
}

func TestExamplesOfPairs(t *testing.T) {
	a := spaceOf(7, 3, []int64{1, 0, 2}, []int64{0, 1, 3})
	b := spaceOf(7, 3, []int64{1, 1, 5})
	quotient, code := impl.QuotientOf(a, b)
	checkLists(t, "QuotientOf a plane by a line in it", quotient, code, [][]int64{{1, 0, 2}}, impl.OK)
	quotient, code = impl.QuotientOf(a, spaceOf(7, 3, []int64{1, 0, 2}))
	checkLists(t, "QuotientOf a plane by its first vector", quotient, code, [][]int64{{0, 1, 3}}, impl.OK)
	quotient, code = impl.QuotientOf(a, spaceOf(7, 3, []int64{1, 1, 4}))
	checkLists(t, "QuotientOf a plane by a line that is not in it", quotient, code, nil, impl.ErrState)
	quotient, code = impl.QuotientOf(a, spaceOf(7, 3, []int64{1, 0, 0}, []int64{0, 1, 3}))
	checkLists(t, "QuotientOf a plane by another one", quotient, code, nil, impl.ErrState)
	complement, code := impl.ComplementOf(spaceOf(7, 4, []int64{0, 1, 3, 0}, []int64{0, 0, 0, 1}))
	checkSpace(t, "ComplementOf", complement, code, spaceOf(7, 4, []int64{1, 0, 0, 0}, []int64{0, 0, 1, 0}), impl.OK)
	orthogonal, code := impl.OrthogonalOf(a)
	checkSpace(t, "OrthogonalOf", orthogonal, code, spaceOf(7, 3, []int64{1, 5, 3}), impl.OK)
	meet, code := impl.MeetSpaces(a, spaceOf(7, 3, []int64{0, 1, 0}, []int64{0, 0, 1}))
	checkSpace(t, "MeetSpaces", meet, code, spaceOf(7, 3, []int64{0, 1, 3}), impl.OK)
}
