package tests

import (
	"fmt"
	"math/rand"
	"slices"
	"testing"

	"loop.example/g01005/impl"
)

// leibnizOf is the determinant as the sum over all permutations; it is meant for few rows.
func leibnizOf(m impl.Matrix) int64 {
	sum := int64(0)
	var extend func(columns []int64, product int64)
	extend = func(columns []int64, product int64) {
		i := int64(len(columns))
		if i == m.Rows {
			sum = (sum + product) % m.Prime
			return
		}
		for k := range m.Rows {
			sign := int64(1)
			for _, earlier := range columns {
				if earlier > k {
					sign = -sign
				}
			}
			if !slices.Contains(columns, k) {
				extend(append(slices.Clone(columns), k), product*sign*cellOf(m, i, k)%m.Prime)
			}
		}
	}
	extend(nil, 1)
	return (sum + m.Prime) % m.Prime
}

// checkReduced checks that a matrix is in its reduced form and has these pivots.
func checkReduced(t *testing.T, m impl.Matrix, pivots []int64) {
	t.Helper()
	var want []int64
	for i := range m.Rows {
		column := int64(slices.IndexFunc(rowOf(m, i), func(n int64) bool { return n != 0 }))
		if column < 0 {
			continue
		}
		if int64(len(want)) != i {
			t.Errorf("%v: row %d is behind a row of zeros", m, i)
		}
		if i > 0 && column <= want[len(want)-1] {
			t.Errorf("%v: the pivot of row %d is not further to the right", m, i)
		}
		for k := range m.Rows {
			if cell := cellOf(m, k, column); (k == i && cell != 1) || (k != i && cell != 0) {
				t.Errorf("%v: got %d in row %d of the pivot column %d", m, cell, k, column)
			}
		}
		want = append(want, column)
	}
	checkEqual(t, fmt.Sprint("the pivots of ", m), pivots, want)
}

// combinationsOf returns all sums of multiples of the rows as texts; it is meant for few rows.
func combinationsOf(m impl.Matrix) map[string]bool {
	all := map[string]bool{}
	allMatrices(m.Prime, 1, m.Rows, func(factors impl.Matrix) {
		all[fmt.Sprint(productOf(factors, m).Cells)] = true
	})
	return all
}

func TestReducedFormsOfAllSmallMatrices(t *testing.T) {
	sizes := [][3]int64{{2, 0, 0}, {3, 0, 3}, {3, 3, 0}, {2, 1, 4}, {2, 4, 1}, {2, 3, 3}, {2, 2, 5}, {2, 5, 2}, {2, 3, 4}, {2, 4, 3}, {3, 2, 2}, {3, 2, 3}, {3, 3, 2}, {5, 2, 2}, {7, 1, 2}, {7, 2, 1}, {251, 1, 1}}
	for _, size := range sizes {
		allMatrices(size[0], size[1], size[2], func(m impl.Matrix) {
			form, pivots, code := impl.ReducedForm(m)
			checkNumber(t, "the sizes of ReducedForm", form.Rows*100+form.Columns, code, m.Rows*100+m.Columns, impl.OK)
			checkEqual(t, "whether the form is valid", impl.ValidMatrix(form) && form.Prime == m.Prime, true)
			checkReduced(t, form, pivots)
			// The rows that can be reached are the same, and so are their number and thus the form.
			checkEqual(t, "the sums of multiples of rows", combinationsOf(form), combinationsOf(m))
			rank, code := impl.RankOf(m)
			checkNumber(t, "RankOf", rank, code, int64(len(pivots)), impl.OK)
		})
	}
}

// randomReduced returns a matrix in reduced form with its pivots.
func randomReduced(r *rand.Rand, p, rows, columns, rank int64) (impl.Matrix, []int64) {
	var pivots []int64
	for _, column := range r.Perm(int(columns))[:rank] {
		pivots = append(pivots, int64(column))
	}
	slices.Sort(pivots)
	return builtMatrix(p, rows, columns, func(i, k int64) int64 {
		at := slices.Index(pivots, k)
		if at >= 0 && int64(at) == i {
			return 1
		}
		if at >= 0 || i >= rank || k < pivots[i] {
			return 0
		}
		return r.Int63n(p)
	}), pivots
}

// stirred returns a matrix after random row operations, and by which factor they have changed the determinant.
func stirred(r *rand.Rand, m impl.Matrix) (impl.Matrix, int64) {
	m.Cells = slices.Clone(m.Cells)
	p, factor := m.Prime, int64(1)
	for range 6 * m.Rows {
		a, b, n := r.Int63n(m.Rows), r.Int63n(m.Rows), 1+r.Int63n(p-1)
		rowA, rowB, kind := rowOf(m, a), rowOf(m, b), r.Intn(3)
		if kind == 0 {
			factor = factor * n % p
		}
		if kind == 1 && a != b {
			factor = p - factor
		}
		for k := range rowA {
			switch {
			case kind == 0:
				rowA[k] = rowA[k] * n % p
			case kind == 1:
				rowA[k], rowB[k] = rowB[k], rowA[k]
			case a != b:
				rowA[k] = (rowA[k] + n*rowB[k]) % p
			}
		}
	}
	return m, factor
}

func TestReducedFormsAreFoundAgain(t *testing.T) {
	r := rand.New(rand.NewSource(8))
	for _, p := range allPrimes() {
		for _, rows := range someSides() {
			for _, columns := range someSides() {
				rank := r.Int63n(min(rows, columns) + 1)
				if r.Intn(2) == 0 {
					rank = min(rows, columns)
				}
				want, wantPivots := randomReduced(r, p, rows, columns, rank)
				m, _ := stirred(r, want)
				form, pivots, code := impl.ReducedForm(m)
				checkMatrix(t, "ReducedForm", form, code, want, impl.OK)
				checkEqual(t, "the pivots", pivots, wantPivots)
				again, pivots, code := impl.ReducedForm(form)
				checkMatrix(t, "the reduced form of the reduced form", again, code, want, impl.OK)
				checkEqual(t, "the pivots of the reduced form", pivots, wantPivots)
				got, code := impl.RankOf(m)
				checkNumber(t, "RankOf", got, code, rank, impl.OK)
				got, code = impl.RankOf(transposedOf(m))
				checkNumber(t, "RankOf of the transposed matrix", got, code, rank, impl.OK)
			}
		}
	}
}

func TestReducedFormsAtTheLimits(t *testing.T) {
	for _, p := range somePrimes() {
		for _, side := range someSides() {
			for _, m := range []impl.Matrix{matrixOf(p, 0, side), matrixOf(p, side, 0), filledMatrix(p, side, impl.MaxSide, 0)} {
				form, pivots, code := impl.ReducedForm(m)
				checkMatrix(t, "ReducedForm of zeros", form, code, m, impl.OK)
				checkEqual(t, "the pivots of zeros", pivots, nil)
				rank, code := impl.RankOf(m)
				checkNumber(t, "RankOf of zeros", rank, code, 0, impl.OK)
			}
			m := filledMatrix(p, impl.MaxSide, impl.MaxSide, p-1)
			form, pivots, code := impl.ReducedForm(m)
			want := filledMatrix(p, impl.MaxSide, impl.MaxSide, 0)
			copy(want.Cells, filled(impl.MaxSide, 1))
			checkMatrix(t, "ReducedForm of the greatest numbers", form, code, want, impl.OK)
			checkEqual(t, "the pivots of the greatest numbers", pivots, []int64{0})
		}
	}
}

// checkInverse checks that a matrix has an inverse or has none, and that one from both sides.
func checkInverse(t *testing.T, m impl.Matrix, regular bool) {
	t.Helper()
	inverse, code := impl.InverseMatrix(m)
	if !regular {
		checkNoMatrix(t, fmt.Sprint("InverseMatrix of ", m), inverse, code, impl.ErrNotFound)
		return
	}
	if code != impl.OK || !impl.ValidMatrix(inverse) || inverse.Prime != m.Prime || inverse.Rows != m.Rows || inverse.Columns != m.Rows {
		t.Errorf("InverseMatrix of %v: got %v with the code %q", m, inverse, impl.CodeName(code))
		return
	}
	unit := unitOf(m.Prime, m.Rows)
	checkMatrix(t, "the matrix times its inverse", productOf(m, inverse), code, unit, impl.OK)
	checkMatrix(t, "the inverse times its matrix", productOf(inverse, m), code, unit, impl.OK)
	back, code := impl.InverseMatrix(inverse)
	checkMatrix(t, "the inverse of the inverse", back, code, m, impl.OK)
}

func TestInversesAndDeterminantsOfAllSmallMatrices(t *testing.T) {
	for _, size := range [][2]int64{{2, 0}, {251, 0}, {2, 1}, {3, 1}, {251, 1}, {2, 2}, {3, 2}, {5, 2}, {7, 2}, {2, 3}, {3, 3}} {
		allMatrices(size[0], size[1], size[1], func(m impl.Matrix) {
			want := leibnizOf(m)
			determinant, code := impl.DeterminantOf(m)
			checkNumber(t, fmt.Sprint("DeterminantOf ", m), determinant, code, want, impl.OK)
			checkInverse(t, m, want != 0)
		})
	}
}

func TestInversesAndDeterminantsOfRandomMatrices(t *testing.T) {
	r := rand.New(rand.NewSource(9))
	for _, p := range allPrimes() {
		for _, side := range []int64{3, 4, 5} {
			for range 5 {
				m := randomMatrix(r, p, side, side)
				want := leibnizOf(m)
				determinant, code := impl.DeterminantOf(m)
				checkNumber(t, fmt.Sprint("DeterminantOf ", m), determinant, code, want, impl.OK)
				checkInverse(t, m, want != 0)
			}
		}
	}
}

func TestInversesAndDeterminantsOfLargeMatrices(t *testing.T) {
	r := rand.New(rand.NewSource(10))
	for _, p := range allPrimes() {
		for _, side := range []int64{1, 2, 8, impl.MaxSide - 1, impl.MaxSide} {
			m, want := stirred(r, unitOf(p, side))
			determinant, code := impl.DeterminantOf(m)
			checkNumber(t, "DeterminantOf of a regular matrix", determinant, code, want, impl.OK)
			checkInverse(t, m, true)
			turned, code := impl.DeterminantOf(transposedOf(m))
			checkNumber(t, "DeterminantOf of the transposed matrix", turned, code, want, impl.OK)
			other, factor := stirred(r, unitOf(p, side))
			determinant, code = impl.DeterminantOf(productOf(m, other))
			checkNumber(t, "DeterminantOf of a product", determinant, code, want*factor%p, impl.OK)

			form, _ := randomReduced(r, p, side, side, side-1)
			singular, _ := stirred(r, form)
			determinant, code = impl.DeterminantOf(singular)
			checkNumber(t, "DeterminantOf of a singular matrix", determinant, code, 0, impl.OK)
			checkInverse(t, singular, false)
		}
	}
}

func TestMatricesThatAreNotSquare(t *testing.T) {
	for _, p := range somePrimes() {
		for _, rows := range someSides() {
			for _, columns := range someSides() {
				if rows == columns {
					continue
				}
				m := filledMatrix(p, rows, columns, 1)
				inverse, code := impl.InverseMatrix(m)
				checkNoMatrix(t, "InverseMatrix of a matrix that is not square", inverse, code, impl.ErrState)
				determinant, code := impl.DeterminantOf(m)
				checkNumber(t, "DeterminantOf of a matrix that is not square", determinant, code, 0, impl.ErrState)
			}
		}
	}
}

func TestExamplesOfMatrices(t *testing.T) {
	m, _ := impl.ReadMatrix("5 2x2/1,2/3,4")
	determinant, code := impl.DeterminantOf(m)
	checkNumber(t, "the document's determinant", determinant, code, 3, impl.OK)
	rank, code := impl.RankOf(m)
	checkNumber(t, "the document's rank", rank, code, 2, impl.OK)
	for _, p := range allPrimes() {
		determinant, code = impl.DeterminantOf(matrixOf(p, 0, 0))
		checkNumber(t, "DeterminantOf without rows", determinant, code, 1, impl.OK)
		inverse, code := impl.InverseMatrix(matrixOf(p, 0, 0))
		checkMatrix(t, "InverseMatrix without rows", inverse, code, matrixOf(p, 0, 0), impl.OK)
		determinant, code = impl.DeterminantOf(matrixOf(p, 2, 2, 0, 1, 1, 0))
		checkNumber(t, "DeterminantOf of exchanged rows", determinant, code, p-1, impl.OK)
	}
	form, pivots, code := impl.ReducedForm(matrixOf(7, 3, 4, 0, 0, 2, 1, 0, 3, 0, 6, 0, 3, 2, 0))
	checkMatrix(t, "ReducedForm", form, code, matrixOf(7, 3, 4, 0, 1, 0, 2, 0, 0, 1, 4, 0, 0, 0, 0), impl.OK)
	checkEqual(t, "its pivots", pivots, []int64{1, 2})
}
