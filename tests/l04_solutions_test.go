package tests

import (
	"fmt"
	"math"
	"math/rand"
	"slices"
	"testing"

	"loop.example/g01005/impl"
)

// columnsOf returns the columns of a matrix.
func columnsOf(m impl.Matrix) [][]int64 { return rowsOf(transposedOf(m)) }

// freeOf returns which columns have no pivot: those that can be reached from the ones before them. It is meant for few rows.
func freeOf(m impl.Matrix) []bool {
	columns := columnsOf(m)
	var free []bool
	for k, column := range columns {
		free = append(free, reachedFrom(m.Prime, m.Rows, columns[:k])[numberOf(column, m.Prime)])
	}
	return free
}

// theSolution returns the x with m x = b that has 0 in all columns without a pivot, by trying all of them, and whether there is one.
func theSolution(m impl.Matrix, b []int64) ([]int64, bool) {
	free := freeOf(m)
	for _, x := range allVectors(m.Prime, m.Columns) {
		if slices.Equal(imageOf(m, x), b) && isZeroAt(x, free) {
			return x, true
		}
	}
	return nil, false
}

func isZeroAt(x []int64, places []bool) bool {
	for i, n := range x {
		if places[i] && n != 0 {
			return false
		}
	}
	return true
}

func imageOf(m impl.Matrix, x []int64) []int64 {
	return productOf(m, matrixOf(m.Prime, int64(len(x)), 1, x...)).Cells
}

// certificateSystem returns the matrix and the numbers for which a certificate is the solution.
func certificateSystem(m impl.Matrix, b []int64) (impl.Matrix, []int64) {
	system := transposedOf(m)
	system.Cells = append(system.Cells, b...)
	system.Rows++
	right := filled(int(system.Rows), 0)
	right[m.Columns] = 1
	return system, right
}

// checkSystem checks the solution or the certificate that there must be.
func checkSystem(t *testing.T, m impl.Matrix, b []int64) {
	t.Helper()
	what := fmt.Sprint(" of ", m, " and ", b)
	x, code := impl.Solve(m, b)
	if want, ok := theSolution(m, b); ok {
		checkVector(t, "Solve"+what, x, code, want, impl.OK)
	} else {
		checkVector(t, "Solve"+what, x, code, nil, impl.ErrNotFound)
	}
	y, code := impl.Certificate(m, b)
	if want, ok := theSolution(certificateSystem(m, b)); ok {
		checkVector(t, "Certificate"+what, y, code, want, impl.OK)
	} else {
		checkVector(t, "Certificate"+what, y, code, nil, impl.ErrNotFound)
	}
}

// kernelOf returns the vectors that the document names, by trying all of them.
func kernelOf(m impl.Matrix) [][]int64 {
	free := freeOf(m)
	var kernel [][]int64
	for place := range free {
		for _, x := range allVectors(m.Prime, m.Columns) {
			others := slices.Clone(free)
			others[place] = false
			if free[place] && x[place] == 1 && isZeroAt(x, others) && firstPlace(imageOf(m, x)) < 0 {
				kernel = append(kernel, x)
			}
		}
	}
	return kernel
}

func TestSystemsOfAllSmallMatrices(t *testing.T) {
	sizes := [][3]int64{{2, 0, 0}, {2, 0, 1}, {2, 0, 3}, {2, 1, 0}, {2, 3, 0}, {2, 1, 1}, {2, 1, 4}, {2, 4, 1}, {2, 2, 3}, {2, 3, 2}, {2, 3, 3}, {3, 0, 2}, {3, 2, 0}, {3, 1, 3}, {3, 3, 1}, {3, 2, 2}, {5, 1, 2}, {5, 2, 1}, {7, 1, 1}, {251, 0, 0}}
	for _, s := range sizes {
		spaces := spacesByMembers(s[0], s[1])
		allMatrices(s[0], s[1], s[2], func(m impl.Matrix) {
			kernel, code := impl.KernelOf(m)
			checkLists(t, fmt.Sprint("KernelOf ", m), kernel, code, kernelOf(m), impl.OK)
			image, code := impl.ColumnSpace(m)
			checkSpace(t, fmt.Sprint("ColumnSpace of ", m), image, code, spaces[fmt.Sprint(reachedFrom(m.Prime, m.Rows, columnsOf(m)))], impl.OK)
			for _, b := range allVectors(m.Prime, m.Rows) {
				checkSystem(t, m, b)
			}
		})
	}
}

// checkEither checks that there is a solution or else a certificate, and that it is one.
func checkEither(t *testing.T, m impl.Matrix, b []int64, solvable bool) {
	t.Helper()
	_, pivots, _ := impl.ReducedForm(m)
	x, code := impl.Solve(m, b)
	y, otherCode := impl.Certificate(m, b)
	if solvable {
		checkSolution(t, m, b, x, pivots)
		checkNumber(t, "the code of Solve", 0, code, 0, impl.OK)
		checkVector(t, "Certificate where there is a solution", y, otherCode, nil, impl.ErrNotFound)
		return
	}
	checkVector(t, "Solve where there is no solution", x, code, nil, impl.ErrNotFound)
	checkNumber(t, "the code of Certificate", dotOf(y, b, m.Prime), otherCode, 1, impl.OK)
	system, right := certificateSystem(m, b)
	checkSolution(t, system, right, y, pivotsOf(system))
}

// pivotsOf returns the pivots of a matrix that may have one row more than is valid.
func pivotsOf(m impl.Matrix) []int64 {
	if m.Rows <= m.Columns {
		_, pivots, _ := impl.ReducedForm(m)
		return pivots
	}
	last := m.Rows - 1
	form, pivots, _ := impl.ReducedForm(matrixOf(m.Prime, last, m.Columns, m.Cells[:last*m.Columns]...))
	if int64(len(pivots)) == m.Columns {
		return pivots
	}
	// There is a row of zeros that can give way for the last row.
	copy(rowOf(form, last-1), rowOf(m, last))
	_, pivots, _ = impl.ReducedForm(form)
	return pivots
}

// checkSolution checks that x is a vector with m x = b and with 0 in all columns without a pivot.
func checkSolution(t *testing.T, m impl.Matrix, b, x, pivots []int64) {
	t.Helper()
	if !impl.ValidVector(x, m.Prime) || int64(len(x)) != m.Columns {
		t.Errorf("the solution %v is no vector of %d numbers modulo %d", x, m.Columns, m.Prime)
		return
	}
	checkEqual(t, "the product with the solution", imageOf(m, x), b)
	for k, n := range x {
		if n != 0 && !slices.Contains(pivots, int64(k)) {
			t.Errorf("the solution has %d in the column %d, which has no pivot", n, k)
		}
	}
}

// checkKernel checks the vectors of KernelOf, of which there must be one for each column without a pivot.
func checkKernel(t *testing.T, m impl.Matrix) {
	t.Helper()
	_, pivots, _ := impl.ReducedForm(m)
	kernel, code := impl.KernelOf(m)
	checkNumber(t, "the number of vectors of KernelOf", int64(len(kernel)), code, m.Columns-int64(len(pivots)), impl.OK)
	at := 0
	for k := range m.Columns {
		if slices.Contains(pivots, k) || at >= len(kernel) {
			continue
		}
		unit := filled(int(m.Columns), 0)
		unit[k] = 1
		for _, pivot := range pivots {
			unit[pivot] = kernel[at][pivot]
		}
		checkEqual(t, "a vector of KernelOf", kernel[at], unit)
		checkEqual(t, "whether it is a vector", impl.ValidVector(kernel[at], m.Prime), true)
		checkEqual(t, "the product with it", imageOf(m, kernel[at]), filled(int(m.Rows), 0))
		at++
	}
}

func TestSystemsOfRandomMatrices(t *testing.T) {
	t.Parallel()
	r := rand.New(rand.NewSource(14))
	for _, p := range allPrimes() {
		for _, rows := range someSides() {
			for _, columns := range someSides() {
				form, _ := randomReduced(r, p, rows, columns, r.Int63n(min(rows, columns)+1))
				m := form
				if rows > 0 {
					m, _ = stirred(r, form)
				}
				checkKernel(t, m)
				image, code := impl.ColumnSpace(m)
				want, _ := impl.SpaceOf(p, rows, columnsOf(m))
				checkSpace(t, "ColumnSpace", image, code, want, impl.OK)
				checkEither(t, m, imageOf(m, randomVector(r, p, int(columns))), true)
				checkEither(t, m, filled(int(rows), 0), true)
				b := randomVector(r, p, int(rows))
				checkEither(t, m, b, impl.ContainsVector(image, b))
				complement, _ := impl.ComplementOf(image)
				for _, unit := range complement.Basis {
					checkEither(t, m, unit, false)
				}
			}
		}
	}
}

func TestSystemsAtTheLimits(t *testing.T) {
	for _, p := range somePrimes() {
		for _, side := range someSides() {
			// Without columns, only 0 has a solution, which has no numbers; without rows, all is 0.
			ones := filled(int(side), 1)
			checkEither(t, matrixOf(p, side, 0), filled(int(side), 0), true)
			checkEither(t, matrixOf(p, side, 0), ones, side == 0)
			x, code := impl.Solve(matrixOf(p, 0, side), nil)
			checkVector(t, "Solve without rows", x, code, filled(int(side), 0), impl.OK)
			y, code := impl.Certificate(matrixOf(p, 0, side), nil)
			checkVector(t, "Certificate without rows", y, code, nil, impl.ErrNotFound)
			kernel, code := impl.KernelOf(matrixOf(p, 0, side))
			checkLists(t, "KernelOf without rows", kernel, code, fullSpace(p, side).Basis, impl.OK)
			kernel, code = impl.KernelOf(matrixOf(p, side, 0))
			checkLists(t, "KernelOf without columns", kernel, code, nil, impl.OK)
			kernel, code = impl.KernelOf(filledMatrix(p, impl.MaxSide, side, 0))
			checkLists(t, "KernelOf zeros", kernel, code, fullSpace(p, side).Basis, impl.OK)
			kernel, code = impl.KernelOf(unitOf(p, side))
			checkLists(t, "KernelOf a unit matrix", kernel, code, nil, impl.OK)
			image, code := impl.ColumnSpace(matrixOf(p, 0, side))
			checkSpace(t, "ColumnSpace without rows", image, code, spaceOf(p, 0), impl.OK)
			image, code = impl.ColumnSpace(matrixOf(p, side, 0))
			checkSpace(t, "ColumnSpace without columns", image, code, spaceOf(p, side), impl.OK)
			image, code = impl.ColumnSpace(unitOf(p, side))
			checkSpace(t, "ColumnSpace of a unit matrix", image, code, fullSpace(p, side), impl.OK)
			image, code = impl.ColumnSpace(filledMatrix(p, side, impl.MaxSide, 0))
			checkSpace(t, "ColumnSpace of zeros", image, code, spaceOf(p, side), impl.OK)
			checkEither(t, unitOf(p, side), filled(int(side), p-1), true)
			checkEither(t, filledMatrix(p, side, impl.MaxSide, 0), ones, side == 0)
		}
		full := filledMatrix(p, impl.MaxSide, impl.MaxSide, p-1)
		checkEither(t, full, filled(impl.MaxSide, 1), true)
		uneven := filled(impl.MaxSide, 1)
		uneven[impl.MaxSide-1] = 0
		checkEither(t, full, uneven, false)
	}
}

func TestSystemsWithWrongNumbers(t *testing.T) {
	check := func(what string, m impl.Matrix, b []int64, want int64) {
		t.Helper()
		x, code := impl.Solve(m, b)
		checkVector(t, "Solve with "+what, x, code, nil, want)
		y, code := impl.Certificate(m, b)
		checkVector(t, "Certificate with "+what, y, code, nil, want)
	}
	for _, p := range somePrimes() {
		for _, rows := range someSides() {
			for _, columns := range []int64{0, 1, rows, impl.MaxSide} {
				m := filledMatrix(p, rows, columns, 0)
				for _, length := range append(someSides(), columns, rows+1, impl.MaxSide+1, impl.MaxList, impl.MaxList+1, 100000) {
					if length != rows {
						check("another length", m, filled(int(length), 0), impl.ErrRange)
						check("another length", m, filled(int(length), 1), impl.ErrRange)
					}
				}
				for place := range rows {
					for _, n := range outsideNumbers(p) {
						b := filled(int(rows), 0)
						b[place] = n
						check("a number outside", m, b, impl.ErrRange)
					}
				}
			}
		}
	}
	// A matrix that is not valid comes before wrong numbers.
	for what, m := range wrongMatrices() {
		for _, b := range append(oddVectors(), []int64{0, 0}, []int64{math.MinInt64, 0}) {
			check(what, m, b, impl.ErrInvalid)
		}
		kernel, code := impl.KernelOf(m)
		checkLists(t, "KernelOf with "+what, kernel, code, nil, impl.ErrInvalid)
		image, code := impl.ColumnSpace(m)
		checkNoSpace(t, "ColumnSpace with "+what, image, code, impl.ErrInvalid)
	}
}

func TestExamplesOfSystems(t *testing.T) {
	// Two of the unknown numbers are determined, and one is free.
	m := matrixOf(7, 2, 3, 1, 2, 0, 0, 0, 3)
	x, code := impl.Solve(m, []int64{5, 2})
	checkVector(t, "Solve with many solutions", x, code, []int64{5, 0, 3}, impl.OK)
	kernel, code := impl.KernelOf(m)
	checkLists(t, "KernelOf", kernel, code, [][]int64{{5, 1, 0}}, impl.OK)
	x, code = impl.Solve(matrixOf(7, 2, 2, 1, 2, 3, 4), []int64{5, 6})
	checkVector(t, "Solve with one solution", x, code, []int64{3, 1}, impl.OK)
	m = matrixOf(7, 2, 1, 1, 2)
	x, code = impl.Solve(m, []int64{1, 1})
	checkVector(t, "Solve without a solution", x, code, nil, impl.ErrNotFound)
	y, code := impl.Certificate(m, []int64{1, 1})
	checkVector(t, "its certificate", y, code, []int64{2, 6}, impl.OK)
	coordinates, code := impl.CoordinatesIn(spaceOf(7, 3, []int64{1, 0, 2}, []int64{0, 1, 3}), []int64{4, 5, 2})
	checkVector(t, "CoordinatesIn", coordinates, code, []int64{4, 5}, impl.OK)
	coordinates, code = impl.CoordinatesIn(spaceOf(7, 3, []int64{0, 1, 3}), []int64{0, 5, 2})
	checkVector(t, "CoordinatesIn where the numbers differ", coordinates, code, nil, impl.ErrNotFound)
}
