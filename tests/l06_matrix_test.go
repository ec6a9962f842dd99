package tests

import (
	"math"
	"math/bits"
	"slices"
	"strings"
	"testing"
	"unsafe"

	"loop.example/g00197/impl"
)

func sameMatrix(a, b [][]int) bool {
	return slices.EqualFunc(a, b, slices.Equal[[]int])
}

// mulByNumbers is MulM in the document's own words, of two matrices that fit.
func mulByNumbers(a, b [][]int) [][]int {
	out := matrixOf(len(a), len(b[0]), 0)
	for i := range out {
		for j := range out[i] {
			for k := range b {
				out[i][j] ^= mulByBits(a[i][k], b[k][j])
			}
		}
	}
	return out
}

func oneByNumbers(n int) [][]int {
	out := matrixOf(n, n, 0)
	for i := range out {
		out[i][i] = 1
	}
	return out
}

func applyByBytes(m [][]int, units []string) []string {
	var out []string
	for _, row := range m {
		sum := ""
		for i, n := range row {
			sum = addByBytes(sum, mulByBytes(n, units[i]))
		}
		out = append(out, sum)
	}
	return out
}

// determinant is the sum, over all ways to take one number of each row and column, of their
// products; as each number added to itself is 0, there are no signs. It is 0 where no inverse is.
func determinant(m [][]int) int {
	sums := make([]int, 1<<len(m))
	sums[0] = 1
	for taken := 1; taken < len(sums); taken++ {
		row := m[bits.OnesCount(uint(taken))-1]
		for j, n := range row {
			if taken>>j&1 == 1 {
				sums[taken] ^= mulByBits(n, sums[taken^1<<j])
			}
		}
	}
	return sums[len(sums)-1]
}

// matrixOf has one number everywhere.
func matrixOf(rows, columns, n int) [][]int {
	out := make([][]int, rows)
	for i := range out {
		out[i] = slices.Repeat([]int{n}, columns)
	}
	return out
}

func (d *draw) matrix(rows, columns, below int) [][]int {
	out := matrixOf(rows, columns, 0)
	for i := range out {
		for j := range out[i] {
			out[i][j] = d.below(below)
		}
	}
	return out
}

func (d *draw) units(n int) []string {
	var out []string
	for range n {
		out = append(out, d.text(d.below(12)))
	}
	return out
}

func cloneMatrix(m [][]int) [][]int {
	var out [][]int
	for _, row := range m {
		out = append(out, slices.Clone(row))
	}
	return out
}

// with is a matrix with another number at one place.
func with(m [][]int, i, j, n int) [][]int {
	out := cloneMatrix(m)
	out[i][j] = n
	return out
}

// wrongMatrices has those that are not right, some of which would be square.
func wrongMatrices() map[string][][]int {
	wrong := map[string][][]int{
		"nil":                                   nil,
		"no rows":                               {},
		"9 rows":                                matrixOf(9, 8, 1),
		"9 rows of one":                         matrixOf(9, 1, 1),
		"9 rows of 9":                           oneByNumbers(9),
		"one row of nothing":                    {{}},
		"one row that is nil":                   {nil},
		"8 rows of nothing":                     make([][]int, 8),
		"one row of 9":                          matrixOf(1, 9, 1),
		"8 rows of 9":                           matrixOf(8, 9, 1),
		"16 rows of 16":                         oneByNumbers(16),
		"a second row that is shorter":          {{1, 2}, {1}},
		"a second row that is longer":           {{1, 2}, {1, 2, 3}},
		"a second row of nothing":               {{1, 2}, {}},
		"a first row of nothing":                {{}, {1}},
		"a first row that is shorter":           {{1}, {1, 2}},
		"a last row that is shorter":            {{1, 0, 0}, {0, 1, 0}, {0, 1}},
		"a last row that is longer, of 9":       append(matrixOf(7, 8, 1), slices.Repeat([]int{1}, 9)),
		"a first row that is longer, of 9":      append(matrixOf(1, 9, 1), matrixOf(7, 8, 1)...),
		"as many numbers as a square one, even": {{1, 2, 3}, {1}},
	}
	for name, n := range map[string]int{
		"-1": -1, "256": 256, "257": 257, "-255": -255, "-256": -256, "512": 512, "1<<32": 1 << 32, "1<<32+1": 1<<32 + 1,
		"the least": math.MinInt, "the least but one": math.MinInt + 1, "the greatest": math.MaxInt, "the greatest of 32 bits": math.MaxInt32,
	} {
		wrong[name+" alone"] = [][]int{{n}}
		wrong[name+" at the first place"] = with(oneByNumbers(3), 0, 0, n)
		wrong[name+" in the middle"] = with(oneByNumbers(3), 1, 1, n)
		wrong[name+" at the last place"] = with(oneByNumbers(8), 7, 7, n)
		wrong[name+" beside the diagonal"] = with(oneByNumbers(8), 0, 7, n)
		wrong[name+" at the end of one row"] = with(matrixOf(1, 8, 1), 0, 7, n)
		wrong[name+" at the end of one column"] = with(matrixOf(8, 1, 1), 7, 0, n)
	}
	return wrong
}

func wantProduct(t *testing.T, a, b, want [][]int) {
	t.Helper()
	if p := impl.MulM(a, b); !sameMatrix(p, want) {
		t.Errorf("MulM(%v, %v) = %v, want %v", a, b, p, want)
	}
}

func wantApplied(t *testing.T, m [][]int, units, want []string) {
	t.Helper()
	if got := impl.ApplyM(m, units); !slices.Equal(got, want) {
		t.Errorf("ApplyM(%v, %q) = %q, want %q", m, units, got, want)
	}
}

func wantNoInverse(t *testing.T, what string, m [][]int) {
	t.Helper()
	if got, ok := impl.InvM(m); ok || len(got) != 0 {
		t.Errorf("InvM of %s, %v, = %v, %t", what, m, got, ok)
	}
}

// wantInverse asks for the inverse from both sides, by the test's own products and by MulM.
func wantInverse(t *testing.T, what string, m [][]int) {
	t.Helper()
	got, ok := impl.InvM(m)
	if !ok || !impl.MatrixOk(got) || len(got) != len(m) || len(got[0]) != len(m) {
		t.Errorf("InvM of %s, %v, = %v, %t", what, m, got, ok)
		return
	}
	one := oneByNumbers(len(m))
	if !sameMatrix(mulByNumbers(m, got), one) || !sameMatrix(mulByNumbers(got, m), one) {
		t.Errorf("InvM of %s, %v, = %v, with which it is not OneM", what, m, got)
	}
	wantProduct(t, m, got, one)
	wantProduct(t, got, m, one)
	if back, ok := impl.InvM(got); !ok || !sameMatrix(back, m) {
		t.Errorf("InvM(InvM(%v)) = %v, %t", m, back, ok)
	}
}

func TestMatricesThatAreRight(t *testing.T) {
	for rows := 1; rows <= 8; rows++ {
		for columns := 1; columns <= 8; columns++ {
			for _, n := range []int{0, 1, 127, 128, 255} {
				if !impl.MatrixOk(matrixOf(rows, columns, n)) {
					t.Errorf("%d rows of %d numbers %d are not right", rows, columns, n)
				}
			}
		}
	}
	for n := range 256 {
		if !impl.MatrixOk([][]int{{n}}) || !impl.MatrixOk(with(oneByNumbers(8), 7, 7, n)) {
			t.Errorf("a matrix with %d is not right", n)
		}
	}
}

func TestMatricesThatAreNotRight(t *testing.T) {
	for what, m := range wrongMatrices() {
		if impl.MatrixOk(m) {
			t.Errorf("%s: a matrix that is not right is taken as right", what)
		}
	}
	for rows := range 12 {
		for columns := range 12 {
			right := rows >= 1 && rows <= 8 && columns >= 1 && columns <= 8
			if impl.MatrixOk(matrixOf(rows, columns, 1)) != right {
				t.Errorf("MatrixOk of %d rows of %d is not %t", rows, columns, right)
			}
		}
	}
	for i := range 8 {
		for j := range 8 {
			for _, n := range []int{-1, 256, math.MinInt, math.MaxInt} {
				if impl.MatrixOk(with(matrixOf(8, 8, 1), i, j, n)) {
					t.Errorf("a matrix with %d in row %d at %d is taken as right", n, i, j)
				}
			}
		}
	}
	for _, n := range farNumbers() {
		if impl.MatrixOk([][]int{{n}}) {
			t.Errorf("a matrix with %d is taken as right", n)
		}
	}
}

func TestMatrixProductsThatAreWrittenOut(t *testing.T) {
	for _, c := range []struct{ a, b, want [][]int }{
		{[][]int{{2}}, [][]int{{128}}, [][]int{{29}}},
		{[][]int{{0}}, [][]int{{255}}, [][]int{{0}}},
		{[][]int{{255}}, [][]int{{255}}, [][]int{{226}}},
		{[][]int{{1, 2}, {3, 4}}, [][]int{{5, 6}, {7, 8}}, [][]int{{11, 22}, {19, 42}}},
		{[][]int{{5, 6}, {7, 8}}, [][]int{{1, 2}, {3, 4}}, [][]int{{15, 18}, {31, 46}}},
		{[][]int{{1, 2}}, [][]int{{3}, {4}}, [][]int{{11}}},
		{[][]int{{3}, {4}}, [][]int{{1, 2}}, [][]int{{3, 6}, {4, 8}}},
		{[][]int{{1, 1}}, [][]int{{7}, {7}}, [][]int{{0}}},
		{[][]int{{1, 1}, {1, 1}}, [][]int{{1, 1}, {1, 1}}, [][]int{{0, 0}, {0, 0}}},
		{[][]int{{1, 1, 1}}, [][]int{{1, 2}, {4, 8}, {16, 32}}, [][]int{{21, 42}}},
	} {
		wantProduct(t, c.a, c.b, c.want)
		if p := mulByNumbers(c.a, c.b); !sameMatrix(p, c.want) {
			t.Errorf("the test's own product of %v and %v is %v", c.a, c.b, p)
		}
	}
}

func TestMatrixProductsOfAllShapes(t *testing.T) {
	d := draw(61)
	for rows := 1; rows <= 8; rows++ {
		for middle := 1; middle <= 8; middle++ {
			for columns := 1; columns <= 8; columns++ {
				a, b := d.matrix(rows, middle, 256), d.matrix(middle, columns, 256)
				p := impl.MulM(a, b)
				if len(p) != rows || len(p[0]) != columns || !impl.MatrixOk(p) {
					t.Fatalf("a product of %d rows of %d and %d rows of %d is %v", rows, middle, middle, columns, p)
				}
				wantProduct(t, a, b, mulByNumbers(a, b))
				wantProduct(t, matrixOf(rows, middle, 255), b, mulByNumbers(matrixOf(rows, middle, 255), b))
				wantProduct(t, a, matrixOf(middle, columns, 0), matrixOf(rows, columns, 0))
				wantProduct(t, matrixOf(rows, middle, 0), b, matrixOf(rows, columns, 0))
			}
		}
	}
}

func TestMatrixProductsTakenTogetherEitherWay(t *testing.T) {
	d := draw(62)
	for range 3000 {
		a := d.matrix(1+d.below(8), 1+d.below(8), 256)
		b := d.matrix(len(a[0]), 1+d.below(8), 256)
		c := d.matrix(len(b[0]), 1+d.below(8), 256)
		left, right := impl.MulM(impl.MulM(a, b), c), impl.MulM(a, impl.MulM(b, c))
		if !sameMatrix(left, right) || len(left) != len(a) || len(left[0]) != len(c[0]) {
			t.Fatalf("the product of %v, %v and %v is %v or %v", a, b, c, left, right)
		}
	}
}

// Products of numbers do not care for order, those of matrices do.
func TestMatrixProductsCareForOrder(t *testing.T) {
	a, b := [][]int{{1, 1}, {0, 1}}, [][]int{{1, 0}, {1, 1}}
	wantProduct(t, a, b, [][]int{{0, 1}, {1, 1}})
	wantProduct(t, b, a, [][]int{{1, 1}, {1, 0}})
}

func TestMatrixProductsWithOnes(t *testing.T) {
	d := draw(63)
	for rows := 1; rows <= 8; rows++ {
		for columns := 1; columns <= 8; columns++ {
			m := d.matrix(rows, columns, 256)
			wantProduct(t, impl.OneM(rows), m, m)
			wantProduct(t, m, impl.OneM(columns), m)
		}
	}
}

func TestMatrixProductsOfWrongMatrices(t *testing.T) {
	d := draw(64)
	for what, wrong := range wrongMatrices() {
		columns := 1
		if len(wrong) > 0 {
			columns = max(1, len(wrong[0]))
		}
		for _, other := range [][][]int{{{1}}, oneByNumbers(min(8, columns)), oneByNumbers(max(1, min(8, len(wrong)))), d.matrix(8, 8, 256), wrong} {
			if p := impl.MulM(wrong, other); len(p) != 0 {
				t.Errorf("%s: MulM of it and %v = %v", what, other, p)
			}
			if p := impl.MulM(other, wrong); len(p) != 0 {
				t.Errorf("%s: MulM of %v and it = %v", what, other, p)
			}
		}
	}
}

func TestMatrixProductsThatDoNotFit(t *testing.T) {
	for rows := 1; rows <= 8; rows++ {
		for columns := 1; columns <= 8; columns++ {
			for below := 1; below <= 8; below++ {
				a, b := matrixOf(rows, columns, 1), matrixOf(below, rows, 1)
				if p := impl.MulM(a, b); (len(p) != 0) != (columns == below) {
					t.Errorf("MulM of %d rows of %d and %d rows of %d = %v", rows, columns, below, rows, p)
				}
			}
		}
	}
}

func TestOneM(t *testing.T) {
	for n := 1; n <= 8; n++ {
		if one := impl.OneM(n); !sameMatrix(one, oneByNumbers(n)) || !impl.MatrixOk(one) {
			t.Errorf("OneM(%d) = %v", n, one)
		}
	}
	for _, n := range []int{0, -1, -2, -8, 9, 10, 16, 255, 256, 257, 1 << 32, 1<<32 + 1, -(1 << 32) + 1, math.MinInt, math.MinInt + 1, math.MaxInt - 1, math.MaxInt} {
		// At the first one that is taken the test ends: a greater one would be made for ever.
		if one := impl.OneM(n); len(one) != 0 {
			t.Fatalf("OneM(%d) has %d rows", n, len(one))
		}
	}
}

func TestMatrixInversesThatAreWrittenOut(t *testing.T) {
	for _, c := range []struct{ m, want [][]int }{
		{[][]int{{1}}, [][]int{{1}}},
		{[][]int{{2}}, [][]int{{142}}},
		{[][]int{{3}}, [][]int{{244}}},
		{[][]int{{1, 1}, {1, 2}}, [][]int{{245, 244}, {244, 244}}},
		{[][]int{{0, 1}, {1, 0}}, [][]int{{0, 1}, {1, 0}}},
		{[][]int{{0, 2}, {3, 0}}, [][]int{{0, 244}, {142, 0}}},
		{[][]int{{1, 1}, {0, 1}}, [][]int{{1, 1}, {0, 1}}},
		{[][]int{{1, 7}, {0, 1}}, [][]int{{1, 7}, {0, 1}}},
		{[][]int{{0, 1, 0}, {0, 0, 1}, {1, 0, 0}}, [][]int{{0, 0, 1}, {1, 0, 0}, {0, 1, 0}}},
		{[][]int{{1, 1, 0}, {1, 1, 1}, {0, 1, 1}}, [][]int{{0, 1, 1}, {1, 1, 1}, {1, 1, 0}}},
	} {
		got, ok := impl.InvM(c.m)
		if !ok || !sameMatrix(got, c.want) {
			t.Errorf("InvM(%v) = %v, %t, want %v", c.m, got, ok, c.want)
		}
		wantInverse(t, "one that is written out", c.m)
	}
}

func TestMatrixInversesOfOneNumber(t *testing.T) {
	wantNoInverse(t, "0", [][]int{{0}})
	for n := 1; n < 256; n++ {
		got, ok := impl.InvM([][]int{{n}})
		if !ok || !sameMatrix(got, [][]int{{impl.InvG(n)}}) {
			t.Errorf("InvM of %d alone = %v, %t", n, got, ok)
		}
	}
}

func TestMatrixInversesOfOnes(t *testing.T) {
	for n := 1; n <= 8; n++ {
		if got, ok := impl.InvM(impl.OneM(n)); !ok || !sameMatrix(got, oneByNumbers(n)) {
			t.Errorf("InvM(OneM(%d)) = %v, %t", n, got, ok)
		}
	}
}

// wantDetermined asks for an inverse just where the determinant is not 0.
func wantDetermined(t *testing.T, m [][]int) {
	t.Helper()
	if determinant(m) == 0 {
		wantNoInverse(t, "one whose determinant is 0", m)
	} else {
		wantInverse(t, "one whose determinant is not 0", m)
	}
}

func bitsAsSquare(n, chosen int) [][]int {
	m := matrixOf(n, n, 0)
	for at := range n * n {
		m[at/n][at%n] = chosen >> at & 1
	}
	return m
}

func TestMatrixInversesOfSmallSquares(t *testing.T) {
	some := []int{0, 1, 2, 3, 128, 142, 255}
	for _, a := range some {
		for _, b := range some {
			for _, c := range some {
				for _, d := range some {
					wantDetermined(t, [][]int{{a, b}, {c, d}})
				}
			}
		}
	}
	for chosen := range 1 << 9 {
		wantDetermined(t, bitsAsSquare(3, chosen))
	}
	for chosen := 0; chosen < 1<<16; chosen += 7 {
		wantDetermined(t, bitsAsSquare(4, chosen))
	}
}

func TestMatrixInversesOfDrawnSquares(t *testing.T) {
	d := draw(65)
	for n := 1; n <= 8; n++ {
		some, none := 0, 0
		for i := range 400 {
			m := d.matrix(n, n, []int{256, 2, 3, 17}[i%4])
			wantDetermined(t, m)
			if determinant(m) == 0 {
				none++
			} else {
				some++
			}
		}
		if some < 50 || none < 50 {
			t.Errorf("of the drawn squares of %d %d have an inverse, and %d have none", n, some, none)
		}
	}
}

// In these a 0 stands where the elimination wants its next number, at first or on the way.
func TestMatrixInversesWithNoughtsOnTheWay(t *testing.T) {
	for n := 2; n <= 8; n++ {
		for shift := range n {
			m := matrixOf(n, n, 0)
			back := matrixOf(n, n, 0)
			for i := range n {
				m[i][(i+shift)%n] = 1 + i*31
				back[i][(2*n-1-i-shift)%n] = 255 - i
			}
			wantInverse(t, "a shift", m)
			wantInverse(t, "a shift backwards", back)
		}
		ahead := matrixOf(n, n, 1)
		for i := range n {
			ahead[i][i] = 0
		}
		wantDetermined(t, ahead)
	}
	for _, m := range [][][]int{
		{{0, 1}, {1, 1}},
		{{0, 255}, {255, 0}},
		{{1, 1, 0}, {1, 1, 1}, {0, 1, 1}},
		{{1, 2, 3}, {1, 2, 4}, {5, 6, 7}},
		{{0, 0, 1}, {0, 1, 0}, {1, 0, 0}},
		{{1, 2, 3, 4}, {2, 4, 6, 7}, {3, 6, 4, 5}, {0, 1, 0, 0}},
		{{1, 1, 1, 1}, {1, 1, 1, 2}, {1, 1, 2, 3}, {1, 2, 3, 4}},
	} {
		wantInverse(t, "one with a 0 on the way", m)
	}
}

// Triangles have an inverse as long as no 0 stands on the diagonal.
func TestMatrixInversesOfTriangles(t *testing.T) {
	d := draw(66)
	for n := 1; n <= 8; n++ {
		upper, lower := d.matrix(n, n, 256), d.matrix(n, n, 256)
		for i := range n {
			upper[i][i], lower[i][i] = 1+d.below(255), 1+d.below(255)
			for j := range i {
				upper[i][j], lower[j][i] = 0, 0
			}
		}
		wantInverse(t, "an upper triangle", upper)
		wantInverse(t, "a lower triangle", lower)
		for i := range n {
			wantNoInverse(t, "an upper triangle with a 0", with(upper, i, i, 0))
			wantNoInverse(t, "a lower triangle with a 0", with(lower, i, i, 0))
		}
	}
}

func timesRow(n int, row []int) []int {
	var out []int
	for _, m := range row {
		out = append(out, mulByBits(n, m))
	}
	return out
}

func turnedAbout(m [][]int) [][]int {
	out := matrixOf(len(m[0]), len(m), 0)
	for i := range m {
		for j := range m[i] {
			out[j][i] = m[i][j]
		}
	}
	return out
}

func TestMatricesWithoutAnInverse(t *testing.T) {
	d := draw(67)
	for n := 1; n <= 8; n++ {
		wantNoInverse(t, "one of noughts", matrixOf(n, n, 0))
		for i := range n {
			m := d.matrix(n, n, 256)
			m[i] = make([]int, n)
			wantNoInverse(t, "one with a row of noughts", m)
			wantNoInverse(t, "one with a column of noughts", turnedAbout(m))
			for j := range n {
				if i == j {
					continue
				}
				m = d.matrix(n, n, 256)
				m[i] = slices.Clone(m[j])
				wantNoInverse(t, "one with two rows that are the same", m)
				wantNoInverse(t, "one with two columns that are the same", turnedAbout(m))
				m[i] = timesRow(2+d.below(254), m[j])
				wantNoInverse(t, "one with a row that is another one times a number", m)
				wantNoInverse(t, "one with a column that is another one times a number", turnedAbout(m))
			}
		}
	}
	for n := 2; n <= 8; n++ {
		wantNoInverse(t, "one of ones", matrixOf(n, n, 1))
		wantNoInverse(t, "one of 255", matrixOf(n, n, 255))
		same := oneByNumbers(n)
		same[n-1] = same[0]
		wantNoInverse(t, "ones with one row twice, in the same memory", same)
	}
}

func TestMatricesWithARowOfTheSumOfOthers(t *testing.T) {
	d := draw(68)
	for n := 3; n <= 8; n++ {
		for range 40 {
			m := d.matrix(n, n, 256)
			at := d.below(n)
			sum := make([]int, n)
			for i, row := range m {
				times := timesRow(d.below(256), row)
				for j := range sum {
					if i != at {
						sum[j] ^= times[j]
					}
				}
			}
			m[at] = sum
			wantNoInverse(t, "one with a row that is a sum of others", m)
		}
	}
}

func TestMatrixInversesOfProducts(t *testing.T) {
	d := draw(69)
	for n := 1; n <= 8; n++ {
		for range 60 {
			a, b := d.matrix(n, n, 256), d.matrix(n, n, 256)
			inverseA, okA := impl.InvM(a)
			inverseB, okB := impl.InvM(b)
			inverse, ok := impl.InvM(impl.MulM(a, b))
			if ok != (okA && okB) {
				t.Fatalf("of %v and %v: inverses %t, %t, of their product %t", a, b, okA, okB, ok)
			}
			if ok && !sameMatrix(inverse, impl.MulM(inverseB, inverseA)) {
				t.Fatalf("the inverse of the product of %v and %v is %v", a, b, inverse)
			}
		}
	}
}

func TestMatrixInversesOfWrongMatrices(t *testing.T) {
	for what, wrong := range wrongMatrices() {
		wantNoInverse(t, what, wrong)
	}
	d := draw(70)
	for rows := 1; rows <= 8; rows++ {
		for columns := 1; columns <= 8; columns++ {
			if rows != columns {
				m := d.matrix(rows, columns, 256)
				for i := range min(rows, columns) {
					m[i] = make([]int, columns)
					m[i][i] = 1
				}
				wantNoInverse(t, "one that is not square", m)
			}
		}
	}
}

func TestApplyMThatIsWrittenOut(t *testing.T) {
	for _, c := range []struct {
		m     [][]int
		units []string
		want  []string
	}{
		{[][]int{{1}}, []string{"hall"}, []string{"hall"}},
		{[][]int{{0}}, []string{"hall"}, []string{"\x00\x00\x00\x00"}},
		{[][]int{{2}}, []string{"\x80\x01"}, []string{"\x1d\x02"}},
		{[][]int{{255}}, []string{"\xff\x02\x00"}, []string{"\xe2\xe3\x00"}},
		{[][]int{{1, 1}}, []string{"a", "a"}, []string{"\x00"}},
		{[][]int{{1, 1}}, []string{"ab", "a"}, []string{"\x00b"}},
		{[][]int{{1, 0}}, []string{"a", "bcd"}, []string{"a\x00\x00"}},
		{[][]int{{0, 1}}, []string{"abc", "d"}, []string{"d\x00\x00"}},
		{[][]int{{1, 1}, {1, 2}}, []string{"\x01\x02", "\x10\x20"}, []string{"\x11\x22", "\x21\x42"}},
		{[][]int{{1, 2}, {1, 2}}, []string{"\x01", "\x80"}, []string{"\x1c", "\x1c"}},
		{[][]int{{1}, {2}, {3}}, []string{"\x01\x80"}, []string{"\x01\x80", "\x02\x1d", "\x03\x9d"}},
		{[][]int{{1, 2, 4}}, []string{"\x01", "\x01", "\x01"}, []string{"\x07"}},
		{[][]int{{1}}, []string{""}, []string{""}},
		{[][]int{{7, 8}, {9, 1}}, []string{"", ""}, []string{"", ""}},
		{[][]int{{7, 1}, {9, 2}}, []string{"", "\x01\x02"}, []string{"\x01\x02", "\x02\x04"}},
		{[][]int{{1, 7}, {2, 9}}, []string{"\x01\x02", ""}, []string{"\x01\x02", "\x02\x04"}},
		{[][]int{{0, 0}, {0, 0}}, []string{"a", "bc"}, []string{"\x00\x00", "\x00\x00"}},
	} {
		wantApplied(t, c.m, c.units, c.want)
		if got := applyByBytes(c.m, c.units); !slices.Equal(got, c.want) {
			t.Errorf("the test's own ApplyM(%v, %q) is %q", c.m, c.units, got)
		}
	}
}

func TestApplyMOfAllShapes(t *testing.T) {
	d := draw(71)
	for rows := 1; rows <= 8; rows++ {
		for columns := 1; columns <= 8; columns++ {
			for range 10 {
				m, units := d.matrix(rows, columns, 256), d.units(columns)
				wantApplied(t, m, units, applyByBytes(m, units))
				longest := 0
				for _, unit := range units {
					longest = max(longest, len(unit))
				}
				for i, sum := range impl.ApplyM(m, units) {
					if len(sum) != longest {
						t.Errorf("row %d of units of at most %d bytes has %d", i, longest, len(sum))
					}
				}
			}
			nothing := make([]string, columns)
			wantApplied(t, d.matrix(rows, columns, 256), nothing, make([]string, rows))
			noughts := slices.Repeat([]string{"\x00\x00\x00"}, columns)
			wantApplied(t, d.matrix(rows, columns, 256), noughts, slices.Repeat([]string{"\x00\x00\x00"}, rows))
		}
	}
}

func TestApplyMIsAddTextOfMulText(t *testing.T) {
	d := draw(72)
	for range 500 {
		m := d.matrix(1+d.below(8), 1+d.below(8), 256)
		units := d.units(len(m[0]))
		got := impl.ApplyM(m, units)
		for i, row := range m {
			want := ""
			for j := len(row) - 1; j >= 0; j-- {
				want = impl.AddText(impl.MulText(row[j], units[j]), want)
			}
			if len(got) != len(m) || got[i] != want {
				t.Fatalf("row %d of ApplyM(%v, %q) is not %q: %q", i, m, units, want, got)
			}
		}
	}
}

func TestApplyMOfOnes(t *testing.T) {
	d := draw(73)
	for n := 1; n <= 8; n++ {
		for range 20 {
			length := d.below(20)
			var units []string
			for range n {
				units = append(units, d.text(length))
			}
			wantApplied(t, impl.OneM(n), units, units)
		}
	}
	wantApplied(t, impl.OneM(3), []string{"long", "", "ab"}, []string{"long", "\x00\x00\x00\x00", "ab\x00\x00"})
}

func TestApplyMGoesWithProducts(t *testing.T) {
	d := draw(74)
	for range 500 {
		b := d.matrix(1+d.below(8), 1+d.below(8), 256)
		a := d.matrix(1+d.below(8), len(b), 256)
		units := d.units(len(b[0]))
		wantApplied(t, impl.MulM(a, b), units, impl.ApplyM(a, impl.ApplyM(b, units)))
	}
}

func TestApplyMOfAnInverseBringsUnitsBack(t *testing.T) {
	d := draw(75)
	for n := 1; n <= 8; n++ {
		back := 0
		for range 40 {
			m := d.matrix(n, n, 256)
			inverse, ok := impl.InvM(m)
			if !ok {
				continue
			}
			back++
			length := d.below(30)
			var units []string
			for range n {
				units = append(units, d.text(length))
			}
			wantApplied(t, inverse, impl.ApplyM(m, units), units)
		}
		if back < 30 {
			t.Errorf("only %d of 40 drawn squares of %d have an inverse", back, n)
		}
	}
}

func TestApplyMOfWrongMatrices(t *testing.T) {
	units := strings.Split("abcdefghijklmnop", "")
	for what, wrong := range wrongMatrices() {
		for n := range len(units) + 1 {
			if got := impl.ApplyM(wrong, units[:n]); len(got) != 0 {
				t.Errorf("%s: ApplyM of it and %d units = %q", what, n, got)
			}
		}
	}
}

func TestApplyMOfUnitsThatDoNotFit(t *testing.T) {
	units := strings.Split("abcdefghijklmnop", "")
	for rows := 1; rows <= 8; rows++ {
		for columns := 1; columns <= 8; columns++ {
			m := matrixOf(rows, columns, 3)
			for n := range len(units) + 1 {
				if got := impl.ApplyM(m, units[:n]); (len(got) != 0) != (n == columns) {
					t.Errorf("ApplyM of %d rows of %d and %d units = %q", rows, columns, n, got)
				}
			}
			if got := impl.ApplyM(m, nil); len(got) != 0 {
				t.Errorf("ApplyM of %d rows of %d and no units = %q", rows, columns, got)
			}
		}
	}
}

// The chapter names no limit for units.
func TestApplyMOfLongUnits(t *testing.T) {
	d := draw(76)
	units := []string{d.text(impl.MaxText + 1), d.text(3 * impl.MaxText), ""}
	m := [][]int{{1, 2, 3}, {0, 29, 1}}
	if got := impl.ApplyM(m, units); !slices.Equal(got, applyByBytes(m, units)) {
		t.Error("of long units the sums are others")
	}
}

// scribble writes over all of an answer, and over the spare room behind its lists.
func scribble(m [][]int) {
	for _, row := range m {
		row = row[:cap(row)]
		for i := range row {
			row[i] = 77777
		}
	}
	m = m[:cap(m)]
	for i := range m {
		m[i] = []int{88888}
	}
}

// roomy has spare room behind each list, with numbers in it that are seen when they are changed.
func roomy(m [][]int) [][]int {
	var out [][]int
	for _, row := range m {
		out = append(out, spare(row, 999))
	}
	return spare(out, []int{999})
}

func wantUntouched(t *testing.T, what string, room, want [][]int) {
	t.Helper()
	all := room[:len(room)+3]
	for i := range all {
		if i >= len(room) {
			if !slices.Equal(all[i], []int{999}) {
				t.Errorf("%s: what is behind the rows is written into", what)
			}
			continue
		}
		if !slices.Equal(all[i], want[i]) || !slices.Equal(all[i][:len(want[i])+3], append(slices.Clone(want[i]), 999, 999, 999)) {
			t.Errorf("%s: row %d, or what is behind it, is written into", what, i)
		}
	}
}

func TestMatricesWriteIntoNoArgument(t *testing.T) {
	d := draw(77)
	for n := 1; n <= 8; n++ {
		for _, m := range [][][]int{d.matrix(n, n, 256), d.matrix(n, n, 2), oneByNumbers(n), matrixOf(n, n, 0), with(matrixOf(n, n, 5), 0, 0, 256)} {
			a, b := roomy(m), roomy(m)
			units := spare(d.units(n), "behind")
			seen := slices.Clone(units[:n+3])
			inverse, _ := impl.InvM(a)
			product := impl.MulM(a, b)
			impl.MatrixOk(a)
			sums := impl.ApplyM(a, units)
			wantUntouched(t, "a", a, m)
			wantUntouched(t, "b", b, m)
			scribble(inverse)
			scribble(product)
			scribble(impl.MulM(impl.OneM(n), b))
			scribble(impl.MulM(a, impl.OneM(n)))
			for i := range sums {
				sums[i] = "another"
			}
			wantUntouched(t, "a behind its answers", a, m)
			wantUntouched(t, "b behind its answers", b, m)
			if !slices.Equal(units[:n+3], seen) {
				t.Errorf("the units, or what is behind them, are written into: %q, not %q", units[:n+3], seen)
			}
		}
	}
}

func TestUnitsAreNotWrittenInto(t *testing.T) {
	room := []byte("one textbehind")
	unit := unsafe.String(&room[0], len("one text"))
	impl.ApplyM([][]int{{1, 2}, {0, 1}}, []string{unit, "a longer text than the other one, all the same"})
	impl.ApplyM([][]int{{1}, {0}, {255}}, []string{unit})
	impl.ApplyM([][]int{{1, 1}}, []string{unit, unit})
	if string(room) != "one textbehind" {
		t.Errorf("a unit, or what is behind it, is written into: %q", room)
	}
}

// wantOwnRows writes over the rows of an answer one after the other, and looks at the others.
func wantOwnRows(t *testing.T, what string, m [][]int) {
	t.Helper()
	for i := range m {
		before := cloneMatrix(m)
		row := m[i][:cap(m[i])]
		for j := range row {
			row[j] = 77777
		}
		m[i] = before[i]
		if !sameMatrix(m, before) {
			t.Errorf("%s: row %d shares memory with another one", what, i)
		}
	}
}

func TestMatricesAreNewMemory(t *testing.T) {
	row := []int{1, 2, 3}
	same := [][]int{row, row, row}
	wantOwnRows(t, "a product of rows that are the same", impl.MulM(same, impl.OneM(3)))
	wantOwnRows(t, "a product with rows that are the same", impl.MulM(impl.OneM(3), same))
	wantOwnRows(t, "a product of both", impl.MulM(same, same))
	wantNoInverse(t, "rows of the same memory", same)
	if !slices.Equal(row, []int{1, 2, 3}) {
		t.Errorf("a row that stands there three times is written into: %v", row)
	}
	for n := 1; n <= 8; n++ {
		wantOwnRows(t, "OneM", impl.OneM(n))
		inverse, _ := impl.InvM(impl.OneM(n))
		wantOwnRows(t, "InvM", inverse)
		scribble(impl.OneM(n))
		if one := impl.OneM(n); !sameMatrix(one, oneByNumbers(n)) {
			t.Errorf("OneM(%d) behind one that was written over = %v", n, one)
		}
	}
}

func TestSumsOfUnitsAreNewMemory(t *testing.T) {
	units := []string{ownText("a text of its own"), ownText("another, which is longer"), ownText(strings.Repeat("\x00", 40))}
	for _, m := range [][][]int{oneByNumbers(3), {{1, 0, 0}}, {{0, 1, 0}}, {{0, 0, 1}}, {{1, 1, 0}, {1, 1, 0}}, {{0, 0, 0}, {0, 0, 0}}, {{2, 3, 4}, {2, 3, 4}}} {
		sums := impl.ApplyM(m, units)
		if len(sums) != len(m) {
			t.Fatalf("ApplyM of %d rows has %d sums", len(m), len(sums))
		}
		for i, sum := range sums {
			for _, unit := range units {
				if within(sum, unit) {
					t.Errorf("row %d of %v is in the memory of a unit", i, m)
				}
			}
			for j := range i {
				if within(sum, sums[j]) {
					t.Errorf("rows %d and %d of %v are in the same memory", j, i, m)
				}
			}
		}
	}
	alone := ownText("a unit that stands alone")
	if got := impl.ApplyM(impl.OneM(1), []string{alone}); len(got) != 1 || got[0] != alone || within(got[0], alone) {
		t.Errorf("ApplyM(OneM(1)) of a unit = %q, or in its memory", got)
	}
}
