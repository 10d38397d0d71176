package tests

import (
	"fmt"
	"math"
	"math/rand"
	"slices"
	"strings"
	"testing"

	"loop.example/g01005/impl"
)

// matrixOf returns a matrix, which may be one that is not valid.
func matrixOf(p, rows, columns int64, cells ...int64) impl.Matrix {
	return impl.Matrix{Prime: p, Rows: rows, Columns: columns, Cells: cells}
}

// filledMatrix returns a matrix of one number again and again.
func filledMatrix(p, rows, columns, n int64) impl.Matrix {
	return matrixOf(p, rows, columns, filled(int(rows*columns), n)...)
}

// randomMatrix returns a valid matrix.
func randomMatrix(r *rand.Rand, p, rows, columns int64) impl.Matrix {
	return matrixOf(p, rows, columns, randomVector(r, p, int(rows*columns))...)
}

// builtMatrix returns a matrix whose cells a function tells.
func builtMatrix(p, rows, columns int64, cell func(i, k int64) int64) impl.Matrix {
	m := matrixOf(p, rows, columns)
	for i := range rows {
		for k := range columns {
			m.Cells = append(m.Cells, cell(i, k))
		}
	}
	return m
}

func cellOf(m impl.Matrix, i, k int64) int64 { return m.Cells[i*m.Columns+k] }

func rowOf(m impl.Matrix, i int64) []int64 { return m.Cells[i*m.Columns : (i+1)*m.Columns] }

// unitOf, productOf and transposedOf go by the definitions, to check the package against.
func unitOf(p, n int64) impl.Matrix {
	return builtMatrix(p, n, n, func(i, k int64) int64 {
		if i == k {
			return 1
		}
		return 0
	})
}

func productOf(a, b impl.Matrix) impl.Matrix {
	return builtMatrix(a.Prime, a.Rows, b.Columns, func(i, k int64) int64 {
		sum := int64(0)
		for j := range a.Columns {
			sum += cellOf(a, i, j) * cellOf(b, j, k)
		}
		return sum % a.Prime
	})
}

func transposedOf(m impl.Matrix) impl.Matrix {
	return builtMatrix(m.Prime, m.Columns, m.Rows, func(i, k int64) int64 { return cellOf(m, k, i) })
}

// equalMatrices does not rely on SameMatrix.
func equalMatrices(a, b impl.Matrix) bool {
	return a.Prime == b.Prime && a.Rows == b.Rows && a.Columns == b.Columns && slices.Equal(a.Cells, b.Cells)
}

// checkMatrix checks a result with a code; with a code other than OK, the matrix wanted is the zero Matrix.
func checkMatrix(t *testing.T, what string, got impl.Matrix, code int64, want impl.Matrix, wantCode int64) {
	t.Helper()
	if !equalMatrices(got, want) || code != wantCode {
		t.Errorf("%s: got %v with the code %q, want %v with %q", what, got, impl.CodeName(code), want, impl.CodeName(wantCode))
	}
}

// checkNoMatrix checks that there is no result but a code.
func checkNoMatrix(t *testing.T, what string, got impl.Matrix, code, wantCode int64) {
	t.Helper()
	checkMatrix(t, what, got, code, impl.Matrix{}, wantCode)
}

// allMatrices calls a function with each matrix of a prime and a size.
func allMatrices(p, rows, columns int64, f func(impl.Matrix)) {
	count := int64(1)
	for range rows * columns {
		count *= p
	}
	for number := range count {
		f(builtMatrix(p, rows, columns, func(i, k int64) int64 {
			cell := number % p
			number /= p
			return cell
		}))
	}
}

// somePrimes returns few primes, with the least and the greatest one.
func somePrimes() []int64 { return []int64{2, 3, 5, 7, 127, impl.MaxPrime} }

// someSides returns sides, with the least ones and the greatest one.
func someSides() []int64 { return []int64{0, 1, 2, 3, 5, impl.MaxSide - 1, impl.MaxSide} }

// wrongSides returns numbers that are no sides.
func wrongSides() []int64 {
	return []int64{-1, impl.MaxSide + 1, -2, -impl.MaxSide, 64, 1 << 31, 1 << 32, -1 << 32, 1<<62 + 1, math.MinInt64, math.MinInt64 + 1, math.MaxInt64 - 1, math.MaxInt64}
}

// wrongMatrices returns matrices of which each one is not valid for one reason.
func wrongMatrices() map[string]impl.Matrix {
	wrong := map[string]impl.Matrix{
		"the zero Matrix":                    {},
		"too few cells":                      matrixOf(3, 2, 2, 0, 1, 2),
		"too many cells":                     matrixOf(3, 2, 2, 0, 1, 2, 0, 1),
		"no cells":                           matrixOf(3, 1, 1),
		"a cell without rows":                matrixOf(3, 0, 1, 0),
		"a cell without columns":             matrixOf(3, 1, 0, 0),
		"a cell without a side":              matrixOf(3, 0, 0, 0),
		"both sides negative":                matrixOf(3, -1, -1, 0),
		"two sides with an empty product":    matrixOf(3, 1<<32, 1<<32),
		"sides with a product over int64":    matrixOf(3, 3, 6148914691236517206, 1, 1),
		"sides with a product under int64":   matrixOf(3, math.MinInt64, 2),
		"the least int64 twice":              matrixOf(3, math.MinInt64, math.MinInt64),
		"one row too many":                   filledMatrix(3, impl.MaxSide+1, 1, 0),
		"one column too many":                filledMatrix(3, 1, impl.MaxSide+1, 0),
		"one row too many, without columns":  matrixOf(3, impl.MaxSide+1, 0),
		"one column too many, without rows":  matrixOf(3, 0, impl.MaxSide+1),
		"a cell too many in a full matrix":   matrixOf(3, impl.MaxSide, impl.MaxSide, filled(impl.MaxSide*impl.MaxSide+1, 0)...),
		"a cell too few in a full matrix":    matrixOf(3, impl.MaxSide, impl.MaxSide, filled(impl.MaxSide*impl.MaxSide-1, 0)...),
		"a great many cells":                 matrixOf(3, 1, 1, filled(100000, 0)...),
		"the greatest prime and one more":    matrixOf(257, 1, 1, 0),
		"no rows or columns modulo no prime": matrixOf(4, 0, 0),
	}
	for _, p := range notPrimes() {
		wrong[fmt.Sprint("the prime ", p)] = matrixOf(p, 1, 1, 0)
	}
	for _, n := range wrongSides() {
		wrong[fmt.Sprint("rows ", n)] = matrixOf(3, n, 0)
		wrong[fmt.Sprint("columns ", n)] = matrixOf(3, 0, n)
	}
	for _, n := range outsideNumbers(3) {
		wrong[fmt.Sprint("the first cell ", n)] = matrixOf(3, 2, 2, n, 0, 0, 0)
		wrong[fmt.Sprint("the last cell ", n)] = matrixOf(3, 2, 2, 0, 0, 0, n)
	}
	return wrong
}

func TestValidMatrix(t *testing.T) {
	for _, p := range allPrimes() {
		for _, rows := range someSides() {
			for _, columns := range someSides() {
				checkEqual(t, "zeros", impl.ValidMatrix(filledMatrix(p, rows, columns, 0)), true)
				checkEqual(t, "the greatest numbers", impl.ValidMatrix(filledMatrix(p, rows, columns, p-1)), true)
				if rows*columns > 0 {
					checkEqual(t, "numbers that are too great", impl.ValidMatrix(filledMatrix(p, rows, columns, p)), false)
				}
			}
		}
	}
	for what, m := range wrongMatrices() {
		checkEqual(t, what, impl.ValidMatrix(m), false)
	}
	for place := range 4 {
		for _, n := range outsideNumbers(5) {
			m := matrixOf(5, 2, 2, 0, 1, 2, 4)
			m.Cells[place] = n
			checkEqual(t, "a number outside", impl.ValidMatrix(m), false)
		}
	}
}

func TestSameMatrix(t *testing.T) {
	m := matrixOf(5, 2, 3, 0, 1, 2, 3, 4, 0)
	checkEqual(t, "a copy", impl.SameMatrix(m, matrixOf(5, 2, 3, slices.Clone(m.Cells)...)), true)
	others := []impl.Matrix{
		{}, matrixOf(7, 2, 3, m.Cells...), matrixOf(5, 3, 2, m.Cells...), matrixOf(5, 3, 3, m.Cells...), matrixOf(5, 2, 2, m.Cells...),
		matrixOf(5, 2, 3, m.Cells[:5]...), matrixOf(5, 2, 3), matrixOf(5, 2, 3, 0, 1, 2, 3, 4, 0, 0), matrixOf(5, 2, 3, 0, 1, 2, 3, 4, 5),
	}
	for place := range m.Cells {
		other := matrixOf(5, 2, 3, slices.Clone(m.Cells)...)
		other.Cells[place]++
		others = append(others, other)
	}
	for i, other := range others {
		checkEqual(t, "another matrix", impl.SameMatrix(m, other), false)
		checkEqual(t, "another matrix in front", impl.SameMatrix(other, m), false)
		for k, next := range others {
			checkEqual(t, "two of the others", impl.SameMatrix(other, next), i == k)
		}
	}
	for what, wrong := range wrongMatrices() {
		twin := wrong
		twin.Cells = slices.Clone(wrong.Cells)
		checkEqual(t, "the same matrix with "+what, impl.SameMatrix(wrong, twin), true)
	}
	for _, columns := range []int64{0, 3, -7} {
		nothing, empty := impl.Matrix{Prime: 2, Columns: columns}, impl.Matrix{Prime: 2, Columns: columns, Cells: []int64{}}
		checkEqual(t, "nil and empty", impl.SameMatrix(nothing, empty) && impl.SameMatrix(empty, nothing), true)
	}
	checkEqual(t, "no columns and no rows", impl.SameMatrix(matrixOf(2, 3, 0), matrixOf(2, 0, 3)), false)
}

func TestZeroAndUnitMatrix(t *testing.T) {
	for _, p := range allPrimes() {
		for _, rows := range someSides() {
			for _, columns := range someSides() {
				zero, code := impl.ZeroMatrix(p, rows, columns)
				checkMatrix(t, "ZeroMatrix", zero, code, filledMatrix(p, rows, columns, 0), impl.OK)
			}
			unit, code := impl.UnitMatrix(p, rows)
			checkMatrix(t, "UnitMatrix", unit, code, unitOf(p, rows), impl.OK)
		}
		for _, wrong := range wrongSides() {
			for _, side := range append(someSides(), wrongSides()...) {
				zero, code := impl.ZeroMatrix(p, wrong, side)
				checkNoMatrix(t, "ZeroMatrix with wrong rows", zero, code, impl.ErrRange)
				zero, code = impl.ZeroMatrix(p, side, wrong)
				checkNoMatrix(t, "ZeroMatrix with wrong columns", zero, code, impl.ErrRange)
			}
			unit, code := impl.UnitMatrix(p, wrong)
			checkNoMatrix(t, "UnitMatrix with a wrong size", unit, code, impl.ErrRange)
		}
	}
	for _, p := range notPrimes() {
		for _, side := range append(someSides(), wrongSides()...) {
			zero, code := impl.ZeroMatrix(p, side, 1)
			checkNoMatrix(t, "ZeroMatrix modulo no prime", zero, code, impl.ErrInvalid)
			zero, code = impl.ZeroMatrix(p, 1, side)
			checkNoMatrix(t, "ZeroMatrix modulo no prime", zero, code, impl.ErrInvalid)
			unit, code := impl.UnitMatrix(p, side)
			checkNoMatrix(t, "UnitMatrix modulo no prime", unit, code, impl.ErrInvalid)
		}
	}
}

func TestSumsAndMultiples(t *testing.T) {
	r := rand.New(rand.NewSource(3))
	for _, p := range somePrimes() {
		for _, rows := range someSides() {
			for _, columns := range someSides() {
				a, b := randomMatrix(r, p, rows, columns), randomMatrix(r, p, rows, columns)
				sum, code := impl.AddMatrices(a, b)
				checkMatrix(t, "AddMatrices", sum, code, builtMatrix(p, rows, columns, func(i, k int64) int64 {
					return (cellOf(a, i, k) + cellOf(b, i, k)) % p
				}), impl.OK)
				for _, n := range []int64{0, 1, r.Int63n(p), p - 1} {
					multiple, code := impl.ScaleMatrix(a, n)
					checkMatrix(t, "ScaleMatrix", multiple, code, builtMatrix(p, rows, columns, func(i, k int64) int64 {
						return cellOf(a, i, k) * n % p
					}), impl.OK)
				}
				for _, n := range outsideNumbers(p) {
					multiple, code := impl.ScaleMatrix(a, n)
					checkNoMatrix(t, "ScaleMatrix with a number outside", multiple, code, impl.ErrRange)
				}
			}
		}
	}
	for what, m := range wrongMatrices() {
		for _, n := range []int64{0, 1, -1, 3, math.MinInt64, math.MaxInt64} {
			multiple, code := impl.ScaleMatrix(m, n)
			checkNoMatrix(t, "ScaleMatrix with "+what, multiple, code, impl.ErrInvalid)
		}
	}
}

func TestProducts(t *testing.T) {
	r := rand.New(rand.NewSource(4))
	for _, p := range somePrimes() {
		for _, rows := range someSides() {
			for _, middle := range someSides() {
				a := randomMatrix(r, p, rows, middle)
				for _, columns := range someSides() {
					b := randomMatrix(r, p, middle, columns)
					product, code := impl.Multiply(a, b)
					checkMatrix(t, "Multiply", product, code, productOf(a, b), impl.OK)
				}
				v := randomVector(r, p, int(middle))
				image, code := impl.ApplyMatrix(a, v)
				checkVector(t, "ApplyMatrix", image, code, productOf(a, matrixOf(p, middle, 1, v...)).Cells, impl.OK)
				transposed, code := impl.Transpose(a)
				checkMatrix(t, "Transpose", transposed, code, transposedOf(a), impl.OK)
			}
		}
	}
	full := filledMatrix(impl.MaxPrime, impl.MaxSide, impl.MaxSide, impl.MaxPrime-1)
	product, code := impl.Multiply(full, full)
	checkMatrix(t, "the greatest product", product, code, filledMatrix(impl.MaxPrime, impl.MaxSide, impl.MaxSide, impl.MaxSide), impl.OK)
	image, code := impl.ApplyMatrix(full, rowOf(full, 0))
	checkVector(t, "the greatest image", image, code, filled(impl.MaxSide, impl.MaxSide), impl.OK)
	// A sum of no numbers is 0.
	product, code = impl.Multiply(matrixOf(5, 2, 0), matrixOf(5, 0, 3))
	checkMatrix(t, "a product of the empty sums", product, code, matrixOf(5, 2, 3, 0, 0, 0, 0, 0, 0), impl.OK)
	image, code = impl.ApplyMatrix(matrixOf(5, 2, 0), nil)
	checkVector(t, "an image of no numbers", image, code, []int64{0, 0}, impl.OK)
	image, code = impl.ApplyMatrix(matrixOf(5, 0, 2), []int64{1, 4})
	checkVector(t, "an image without numbers", image, code, nil, impl.OK)
}

func TestApplyMatrixToNoColumn(t *testing.T) {
	for _, rows := range []int64{0, 1, 2, impl.MaxSide} {
		for _, columns := range []int64{0, 1, 3, impl.MaxSide} {
			m := filledMatrix(5, rows, columns, 1)
			for _, length := range []int64{0, 1, 2, 3, 4, impl.MaxSide - 1, impl.MaxSide, impl.MaxSide + 1, rows, 100000} {
				if length != columns {
					image, code := impl.ApplyMatrix(m, filled(int(length), 1))
					checkVector(t, "ApplyMatrix to a column of another length", image, code, nil, impl.ErrInvalid)
				}
			}
			for place := range columns {
				for _, n := range outsideNumbers(5) {
					v := filled(int(columns), 1)
					v[place] = n
					image, code := impl.ApplyMatrix(m, v)
					checkVector(t, "ApplyMatrix to a number outside", image, code, nil, impl.ErrInvalid)
				}
			}
		}
	}
	for what, m := range wrongMatrices() {
		for _, v := range oddVectors() {
			image, code := impl.ApplyMatrix(m, v)
			checkVector(t, "ApplyMatrix with "+what, image, code, nil, impl.ErrInvalid)
		}
	}
}

func TestStackRowsAndJoinColumns(t *testing.T) {
	r := rand.New(rand.NewSource(5))
	sides := append(someSides(), 16, 17)
	for _, p := range []int64{2, impl.MaxPrime} {
		for _, first := range sides {
			for _, second := range sides {
				for _, other := range sides {
					a, b := randomMatrix(r, p, first, other), randomMatrix(r, p, second, other)
					want, wantCode := matrixOf(p, first+second, other, slices.Concat(a.Cells, b.Cells)...), int64(impl.OK)
					joined := transposedOf(want)
					if first+second > impl.MaxSide {
						want, wantCode, joined = impl.Matrix{}, impl.ErrFull, impl.Matrix{}
					}
					got, code := impl.StackRows(a, b)
					checkMatrix(t, "StackRows", got, code, want, wantCode)
					got, code = impl.JoinColumns(transposedOf(a), transposedOf(b))
					checkMatrix(t, "JoinColumns", got, code, joined, wantCode)
				}
			}
		}
	}
}

// matrixPairs are the functions of two matrices.
func matrixPairs() map[string]func(a, b impl.Matrix) (impl.Matrix, int64) {
	return map[string]func(a, b impl.Matrix) (impl.Matrix, int64){
		"AddMatrices": impl.AddMatrices,
		"Multiply":    impl.Multiply,
		"StackRows":   impl.StackRows,
		"JoinColumns": impl.JoinColumns,
	}
}

// sidesFit tells by the document for which sizes a function of two matrices has no ErrState.
func sidesFit(what string, a, b impl.Matrix) bool {
	switch what {
	case "AddMatrices":
		return a.Rows == b.Rows && a.Columns == b.Columns
	case "Multiply":
		return a.Columns == b.Rows
	case "StackRows":
		return a.Columns == b.Columns
	}
	return a.Rows == b.Rows
}

func TestPairsThatDoNotFit(t *testing.T) {
	var all []impl.Matrix
	for _, rows := range someSides() {
		for _, columns := range someSides() {
			all = append(all, filledMatrix(3, rows, columns, 1))
		}
	}
	for what, call := range matrixPairs() {
		for _, a := range all {
			for _, b := range all {
				if got, code := call(a, b); !sidesFit(what, a, b) {
					checkNoMatrix(t, what+" with sides that do not fit", got, code, impl.ErrState)
				} else if code != impl.OK && code != impl.ErrFull {
					t.Errorf("%s with sides that fit: got the code %q", what, impl.CodeName(code))
				}
				// Other primes come before a result that is too large.
				b.Prime = 5
				got, code := call(a, b)
				checkNoMatrix(t, what+" with another prime", got, code, impl.ErrState)
				got, code = call(b, a)
				checkNoMatrix(t, what+" with another prime in front", got, code, impl.ErrState)
			}
		}
	}
}

func TestPairsThatAreNotValid(t *testing.T) {
	good := []impl.Matrix{matrixOf(3, 2, 2, 0, 1, 2, 0), matrixOf(3, 1, 1, 0), matrixOf(5, 0, 0), filledMatrix(3, impl.MaxSide, impl.MaxSide, 0)}
	for what, call := range matrixPairs() {
		for reason, wrong := range wrongMatrices() {
			for _, m := range append(good, wrong) {
				got, code := call(wrong, m)
				checkNoMatrix(t, what+" with "+reason, got, code, impl.ErrInvalid)
				got, code = call(m, wrong)
				checkNoMatrix(t, what+" with "+reason+" behind", got, code, impl.ErrInvalid)
			}
		}
	}
}

func TestSingleMatricesThatAreNotValid(t *testing.T) {
	for what, m := range wrongMatrices() {
		got, code := impl.Transpose(m)
		checkNoMatrix(t, "Transpose with "+what, got, code, impl.ErrInvalid)
		got, pivots, code := impl.ReducedForm(m)
		checkNoMatrix(t, "ReducedForm with "+what, got, code, impl.ErrInvalid)
		checkEqual(t, "the pivots with "+what, pivots, nil)
		rank, code := impl.RankOf(m)
		checkNumber(t, "RankOf with "+what, rank, code, 0, impl.ErrInvalid)
		got, code = impl.InverseMatrix(m)
		checkNoMatrix(t, "InverseMatrix with "+what, got, code, impl.ErrInvalid)
		determinant, code := impl.DeterminantOf(m)
		checkNumber(t, "DeterminantOf with "+what, determinant, code, 0, impl.ErrInvalid)
		checkEqual(t, "MatrixText with "+what, impl.MatrixText(m), "")
	}
}

// multiply returns a product that must be one.
func multiply(t *testing.T, a, b impl.Matrix) impl.Matrix {
	t.Helper()
	product, code := impl.Multiply(a, b)
	checkEqual(t, "the code of a product", code, impl.OK)
	return product
}

// add returns a sum that must be one.
func add(t *testing.T, a, b impl.Matrix) impl.Matrix {
	t.Helper()
	sum, code := impl.AddMatrices(a, b)
	checkEqual(t, "the code of a sum", code, impl.OK)
	return sum
}

// transpose returns a transposed matrix that must be one.
func transpose(t *testing.T, m impl.Matrix) impl.Matrix {
	t.Helper()
	transposed, code := impl.Transpose(m)
	checkEqual(t, "the code of a transposed matrix", code, impl.OK)
	return transposed
}

func TestProductsAndSumsFitTogether(t *testing.T) {
	r := rand.New(rand.NewSource(6))
	for range 300 {
		p := allPrimes()[r.Intn(54)]
		sides := [4]int64{}
		for i := range sides {
			sides[i] = someSides()[r.Intn(len(someSides()))]
		}
		a, b, c := randomMatrix(r, p, sides[0], sides[1]), randomMatrix(r, p, sides[0], sides[1]), randomMatrix(r, p, sides[1], sides[2])
		d := randomMatrix(r, p, sides[2], sides[3])
		n := r.Int63n(p)
		checkMatrix(t, "a + b", add(t, a, b), impl.OK, add(t, b, a), impl.OK)
		checkMatrix(t, "(a + b) c", multiply(t, add(t, a, b), c), impl.OK, add(t, multiply(t, a, c), multiply(t, b, c)), impl.OK)
		checkMatrix(t, "(a c) d", multiply(t, multiply(t, a, c), d), impl.OK, multiply(t, a, multiply(t, c, d)), impl.OK)
		checkMatrix(t, "a c, transposed", transpose(t, multiply(t, a, c)), impl.OK, multiply(t, transpose(t, c), transpose(t, a)), impl.OK)
		checkMatrix(t, "a, transposed twice", transpose(t, transpose(t, a)), impl.OK, a, impl.OK)
		multiple, _ := impl.ScaleMatrix(a, n)
		other, code := impl.ScaleMatrix(multiply(t, a, c), n)
		checkMatrix(t, "(n a) c", multiply(t, multiple, c), code, other, impl.OK)
		unit, code := impl.UnitMatrix(p, sides[1])
		checkMatrix(t, "a times the unit matrix", multiply(t, a, unit), code, a, impl.OK)
		opposite, code := impl.ScaleMatrix(a, p-1)
		checkMatrix(t, "a and its opposite", add(t, a, opposite), code, filledMatrix(p, sides[0], sides[1], 0), impl.OK)
	}
}

// textOf is the text of a matrix by the document.
func textOf(m impl.Matrix) string {
	var text strings.Builder
	fmt.Fprintf(&text, "%d %dx%d", m.Prime, m.Rows, m.Columns)
	for i := range m.Rows {
		cells := strings.ReplaceAll(strings.Trim(fmt.Sprint(rowOf(m, i)), "[]"), " ", ",")
		if cells == "" {
			cells = "-"
		}
		text.WriteString("/" + cells)
	}
	return text.String()
}

// checkText checks that a matrix has a text and is read back from it.
func checkText(t *testing.T, m impl.Matrix, text string) {
	t.Helper()
	checkEqual(t, "MatrixText", impl.MatrixText(m), text)
	back, ok := impl.ReadMatrix(text)
	if !ok || !equalMatrices(back, m) {
		t.Errorf("ReadMatrix(%q): got %v and %v", text, back, ok)
	}
}

func TestMatrixTexts(t *testing.T) {
	r := rand.New(rand.NewSource(7))
	for _, p := range allPrimes() {
		for _, rows := range someSides() {
			for _, columns := range someSides() {
				m := randomMatrix(r, p, rows, columns)
				checkText(t, m, textOf(m))
			}
		}
	}
	checkText(t, matrixOf(5, 2, 2, 1, 2, 3, 4), "5 2x2/1,2/3,4")
	checkText(t, matrixOf(2, 0, 0), "2 0x0")
	checkText(t, matrixOf(2, 0, 32), "2 0x32")
	checkText(t, matrixOf(251, 3, 0), "251 3x0/-/-/-")
	checkText(t, matrixOf(251, 1, 3, 0, 250, 9), "251 1x3/0,250,9")
}

// checkNoText checks that there is no matrix with a text.
func checkNoText(t *testing.T, text string) {
	t.Helper()
	if m, ok := impl.ReadMatrix(text); ok || !equalMatrices(m, impl.Matrix{}) {
		t.Errorf("ReadMatrix(%.60q): got %v and %v", text, m, ok)
	}
}

func TestTextsOfNoMatrix(t *testing.T) {
	texts := []string{
		"5 02x2/1,2/3,4", "5 2x02/1,2/3,4", "05 2x2/1,2/3,4", "5 2x2/01,2/3,4", "5 2x2/1,2/3,04", "+5 2x2/1,2/3,4", "5 +2x2/1,2/3,4", "5 2x2/1,+2/3,4", "-5 2x2/1,2/3,4", "5 2x2/1,2/3,-0", "5 -0x2",
		" 5 2x2/1,2/3,4", "5  2x2/1,2/3,4", "5 2x2/1,2/3,4 ", "5 2 x2/1,2/3,4", "5 2x 2/1,2/3,4", "5 2x2 /1,2/3,4", "5 2x2/ 1,2/3,4", "5 2x2/1, 2/3,4", "5\t2x2/1,2/3,4", "5 2x2/1,2/3,4\n",
		"5 2x2/1,2/3,4/", "5 2x2/1,2/3,4/-", "5 2x2/1,2/3,4/0,0", "5 2x2//1,2/3,4", "5 2x2/1,2//3,4", "/5 2x2/1,2/3,4", "5 2x2/1,2/3,4,", "5 2x2/1,2/3,,4", "5 2x2/,1,2/3,4", "5 2x2/1,2/3,4 5 2x2/1,2/3,4",
		"5 2x2/1,2", "5 2x2/1,2/3", "5 2x2/1/2,3,4", "5 2x2/1,2,3/4", "5 2x2/1,2,3,4", "5 2x2", "5 2x2/", "5 2x", "5 x2", "5 x", "5 2", "5 ", "5", "2x2/1,2/3,4", "x", "/", "//", "-", " ", "",
		"5 2X2/1,2/3,4", "5 2*2/1,2/3,4", "5-2x2/1,2/3,4", "5 2x2x2/1,2/3,4", "5 2x2;1,2;3,4", "5 2x2/1.2/3.4", "a 2x2/1,2/3,4", "5 ax2/1,2/3,4", "5 2xa/1,2/3,4", "5 2x2/a,2/3,4", "5 2x2/0x1,2/3,4",
		"5 2x2/1,2/3,5", "5 2x2/1,-1/3,4", "5 2x2/1,2/999999999999999999,4", "5 1x1/1000000000001", "5 1x1/9223372036854775808", "4 1x1/1", "1 1x1/0", "0 0x0", "-2 0x0", "257 1x1/1", "9223372036854775807 0x0",
		"3 33x0", "3 33x0" + strings.Repeat("/-", 33), "3 0x33", "3 1x33/" + strings.Repeat("0,", 32) + "0", "3 33x1" + strings.Repeat("/0", 33), "3 -1x0", "3 0x-1", "3 -1x-1/0", "3 4294967296x4294967296", "3 0x9223372036854775807", "3 9223372036854775807x0",
		"3 2x0", "3 2x0/-", "3 2x0//", "3 2x0/-/-/-", "3 2x0/-/0", "3 2x0/-,-", "3 2x0/--/-", "3 0x2/-", "3 0x2/", "3 0x0/-", "3 0x0/", "3 1x0/0", "3 1x0/", "3 1x1/-", "3 1x1/", "3 1x2/1", "3 1x2/-,1", "3 1x2/-", "3 2x1/1/-", "3 2x1/-/1",
		"3 1x1" + strings.Repeat("/0", 100000), "3 1x1/" + strings.Repeat("0", 100000), "3 1x1/" + strings.Repeat("0,", 100000) + "0", strings.Repeat("3 1x1/0", 10000), "3 1x" + strings.Repeat("1", 100000),
	}
	for _, text := range append(texts, oddTexts()...) {
		checkNoText(t, text)
	}
}

func TestAllShortTexts(t *testing.T) {
	right := map[string]bool{}
	for rows := range int64(impl.MaxSide + 1) {
		for columns := range int64(impl.MaxSide + 1) {
			if rows*columns <= 3 && rows <= 4 {
				allMatrices(3, rows, columns, func(m impl.Matrix) { right[textOf(m)] = true })
			}
		}
	}
	for _, tail := range allTexts("012x/,- ", 6) {
		if text := "3 " + tail; right[text] {
			m, ok := impl.ReadMatrix(text)
			checkEqual(t, "the text that is read back", textOf(m), text)
			checkEqual(t, "whether "+text+" is read", ok, true)
		} else {
			checkNoText(t, text)
		}
	}
}
