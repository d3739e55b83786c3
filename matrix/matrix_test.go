package matrix

import (
	"bytes"
	"math"
	"slices"
	"testing"

	"backstay/api"
	"backstay/gf"
	"backstay/mixed"
)

// mixedMatrix: one of that size, another one for each seed.
func mixedMatrix(seed, rows, cols int) Matrix {
	return Matrix{rows, cols, mixed.Bytes(seed, rows*cols)}
}

// at: the element in a row and column.
func at(m Matrix, i, k int) byte { return m.Data[i*m.Cols+k] }

// same: in size and elements.
func same(a, b Matrix) bool {
	return a.Rows == b.Rows && a.Cols == b.Cols && bytes.Equal(a.Data, b.Data)
}

// none: is it the zero one?
func none(m Matrix) bool { return m.Rows == 0 && m.Cols == 0 && len(m.Data) == 0 }

// product: each element of it by itself.
func product(f *gf.Tables, a, b Matrix) Matrix {
	m := Matrix{a.Rows, b.Cols, nil}
	for i := range a.Rows {
		for j := range b.Cols {
			var sum byte
			for k := range a.Cols {
				sum ^= f.Mul(at(a, i, k), at(b, k, j))
			}
			m.Data = append(m.Data, sum)
		}
	}
	return m
}

// one: 1 where row and column are the same.
func one(n int) Matrix {
	m := Matrix{n, n, make([]byte, n*n)}
	for i := range n {
		m.Data[i*n+i] = 1
	}
	return m
}

// power: an element, as often multiplied.
func power(f *gf.Tables, a byte, n int) byte {
	out := byte(1)
	for range n {
		out = f.Mul(out, a)
	}
	return out
}

// wrong: matrices that aren't right.
func wrong() []Matrix {
	return []Matrix{
		{1, 1, nil}, {0, 0, []byte{1}}, {2, 2, []byte{1, 2, 3}}, {2, 2, []byte{1, 2, 3, 4, 5}}, {1, 0, []byte{1}}, {0, 1, []byte{1}},
		{-1, -1, []byte{1}}, {-2, -2, []byte{1, 2, 3, 4}}, {-1, 0, nil}, {0, -1, nil}, {256, 0, nil}, {0, 256, nil}, {256, 1, make([]byte, 256)}, {1, 256, make([]byte, 256)},
		{256, 256, make([]byte, 65536)}, {math.MaxInt, math.MaxInt, []byte{1}}, {math.MinInt, math.MinInt, nil}, {math.MinInt, 2, nil}, {1 << 32, 1 << 32, nil}, {1 << 62, 4, nil},
	}
}

func TestNew(t *testing.T) {
	for _, rows := range []int{0, 1, 2, 3, 100, 254, 255} {
		for _, cols := range []int{0, 1, 2, 3, 100, 254, 255} {
			m, e := New(rows, cols)
			if e != api.OK || !same(m, Matrix{rows, cols, make([]byte, rows*cols)}) {
				t.Errorf("New(%d, %d): %v, %d", rows, cols, m, e)
			}
		}
	}
	for _, bad := range []int{-1, 256, 257, -255, 511, 1 << 32, math.MaxInt, math.MinInt} {
		for _, c := range [][2]int{{bad, 0}, {bad, 3}, {0, bad}, {3, bad}, {bad, bad}} {
			if m, e := New(c[0], c[1]); e != api.ErrSize || !none(m) {
				t.Errorf("New(%d, %d): %v, %d", c[0], c[1], m, e)
			}
		}
		if m, e := Identity(bad); e != api.ErrSize || !none(m) {
			t.Errorf("Identity(%d): %v, %d", bad, m, e)
		}
		f := gf.New()
		for _, c := range [][2]int{{bad, 0}, {bad, 3}, {0, bad}, {3, bad}, {bad, bad}} {
			if m, e := Powers(f, c[0], c[1]); e != api.ErrSize || !none(m) {
				t.Errorf("Powers(%d, %d): %v, %d", c[0], c[1], m, e)
			}
		}
	}
}

func TestRight(t *testing.T) {
	for _, m := range wrong() {
		if Right(m) {
			t.Errorf("%d times %d of %d is right", m.Rows, m.Cols, len(m.Data))
		}
	}
	for _, m := range []Matrix{
		{}, {0, 0, []byte{}}, {0, 255, nil}, {255, 0, nil}, {1, 1, []byte{0}}, {2, 3, make([]byte, 6)}, {3, 2, make([]byte, 6)},
		{255, 255, make([]byte, 255*255)}, {255, 1, make([]byte, 255)}, {1, 255, make([]byte, 255)},
	} {
		if !Right(m) {
			t.Errorf("%d times %d of %d isn't right", m.Rows, m.Cols, len(m.Data))
		}
	}
}

func TestRow(t *testing.T) {
	m := mixedMatrix(1, 4, 3)
	for i := range 4 {
		if got := m.Row(i); !bytes.Equal(got, m.Data[i*3:i*3+3]) {
			t.Errorf("Row(%d): %v", i, got)
		}
	}
	for _, i := range []int{-1, 4, 5, 255, math.MaxInt, math.MinInt} {
		if got := m.Row(i); len(got) != 0 {
			t.Errorf("Row(%d): %v", i, got)
		}
	}
	for _, m := range append(wrong(), Matrix{}, Matrix{3, 0, nil}, Matrix{0, 3, nil}) {
		for _, i := range []int{0, 1, 2, -1, 256, math.MaxInt, math.MinInt} {
			if got := m.Row(i); len(got) != 0 {
				t.Errorf("of %d times %d, %d elements, Row(%d): %v", m.Rows, m.Cols, len(m.Data), i, got)
			}
		}
	}
}

func TestIdentityAndPowers(t *testing.T) {
	f := gf.New()
	for n := range 256 {
		if m, e := Identity(n); e != api.OK || !same(m, one(n)) {
			t.Fatalf("Identity(%d): %v, %d", n, m, e)
		}
	}
	if m, e := Powers(f, 3, 2); e != api.OK || !same(m, Matrix{3, 2, []byte{1, 0, 1, 1, 1, 2}}) {
		t.Errorf("Powers(3, 2): %v, %d", m, e)
	}
	for _, c := range [][2]int{{0, 0}, {0, 9}, {9, 0}, {1, 1}, {1, 255}, {255, 1}, {4, 7}, {255, 255}} {
		m, e := Powers(f, c[0], c[1])
		if e != api.OK || m.Rows != c[0] || m.Cols != c[1] || len(m.Data) != c[0]*c[1] {
			t.Fatalf("Powers(%d, %d): %v, %d", c[0], c[1], m, e)
		}
		for i := range c[0] {
			for k := range c[1] {
				if got, want := at(m, i, k), power(f, byte(i), k); got != want {
					t.Fatalf("Powers(%d, %d) at %d, %d: %d, not %d", c[0], c[1], i, k, got, want)
				}
			}
		}
	}
}

func TestMul(t *testing.T) {
	f := gf.New()
	sizes := []int{0, 1, 2, 3, 8, 21}
	for _, i := range sizes {
		for _, j := range sizes {
			for _, k := range sizes {
				a, b := mixedMatrix(i+j, i, j), mixedMatrix(j+k+99, j, k)
				got, e := Mul(f, a, b)
				if want := product(f, a, b); e != api.OK || !same(got, want) {
					t.Fatalf("Mul(%v, %v): %v, %d, not %v", a, b, got, e, want)
				}
				if got, e := Mul(f, b, a); k != i && (e != api.ErrSize || !none(got)) {
					t.Fatalf("Mul(%v, %v): %v, %d", b, a, got, e)
				}
			}
		}
	}
	a, b := mixedMatrix(5, 255, 255), mixedMatrix(6, 255, 255)
	if got, e := Mul(f, a, b); e != api.OK || !same(got, product(f, a, b)) {
		t.Errorf("of the greatest: %d", e)
	}
	if got, e := Mul(f, a, a); e != api.OK || !same(got, product(f, a, a)) {
		t.Errorf("by itself: %d", e)
	}
}

func TestMulWrong(t *testing.T) {
	f := gf.New()
	for _, m := range wrong() {
		for _, other := range []Matrix{{}, {1, 1, []byte{1}}, {2, 2, []byte{1, 2, 3, 4}}, {m.Cols, m.Rows, m.Data}, m} {
			if got, e := Mul(f, m, other); e != api.ErrSize || !none(got) {
				t.Errorf("Mul(%v, %v): %v, %d", m, other, got, e)
			}
			if got, e := Mul(f, other, m); e != api.ErrSize || !none(got) {
				t.Errorf("Mul(%v, %v): %v, %d", other, m, got, e)
			}
		}
	}
}

func TestPick(t *testing.T) {
	m := Matrix{3, 2, []byte{1, 2, 3, 4, 5, 6}}
	many := make([]int, 256)
	for _, c := range []struct {
		m    Matrix
		rows []int
		want Matrix
		e    api.Errno
	}{
		{m, nil, Matrix{0, 2, nil}, api.OK}, {m, []int{0}, Matrix{1, 2, []byte{1, 2}}, api.OK}, {m, []int{2, 0}, Matrix{2, 2, []byte{5, 6, 1, 2}}, api.OK},
		{m, []int{1, 1, 1}, Matrix{3, 2, []byte{3, 4, 3, 4, 3, 4}}, api.OK}, {m, []int{2, 1, 0, 1}, Matrix{4, 2, []byte{5, 6, 3, 4, 1, 2, 3, 4}}, api.OK},
		{m, []int{3}, Matrix{}, api.ErrSize}, {m, []int{-1}, Matrix{}, api.ErrSize}, {m, []int{0, 1, 3}, Matrix{}, api.ErrSize}, {m, []int{0, math.MinInt, 1}, Matrix{}, api.ErrSize},
		{m, []int{0, 1, math.MaxInt}, Matrix{}, api.ErrSize}, {m, many, Matrix{}, api.ErrSize}, {m, append(many, many...), Matrix{}, api.ErrSize},
		{m, many[:255], Matrix{255, 2, bytes.Repeat([]byte{1, 2}, 255)}, api.OK},
		{Matrix{}, nil, Matrix{}, api.OK}, {Matrix{}, []int{0}, Matrix{}, api.ErrSize}, {Matrix{0, 4, nil}, []int{0}, Matrix{}, api.ErrSize},
		{Matrix{2, 0, nil}, []int{1, 0, 1}, Matrix{3, 0, nil}, api.OK}, {Matrix{2, 0, nil}, []int{2}, Matrix{}, api.ErrSize},
	} {
		if got, e := Pick(c.m, c.rows...); !same(got, c.want) || e != c.e {
			t.Errorf("Pick(%v, %v): %v, %d, not %v, %d", c.m, c.rows, got, e, c.want, c.e)
		}
	}
	for _, m := range wrong() {
		for _, rows := range [][]int{nil, {0}, {0, 1}, {-1}} {
			if got, e := Pick(m, rows...); e != api.ErrSize || !none(got) {
				t.Errorf("Pick(%v, %v): %v, %d", m, rows, got, e)
			}
		}
	}
}

func TestClone(t *testing.T) {
	for _, m := range append(wrong(), Matrix{}, mixedMatrix(1, 3, 4), mixedMatrix(1, 255, 255)) {
		if got := Clone(m); !same(got, m) {
			t.Errorf("Clone(%v): %v", m, got)
		}
	}
}

func TestInvert(t *testing.T) {
	f := gf.New()
	for _, c := range []struct {
		m    Matrix
		want Matrix
		e    api.Errno
	}{
		{Matrix{}, Matrix{}, api.OK}, {one(1), one(1), api.OK}, {one(2), one(2), api.OK}, {one(9), one(9), api.OK}, {one(255), one(255), api.OK},
		{Matrix{1, 1, []byte{2}}, Matrix{1, 1, []byte{142}}, api.OK}, {Matrix{1, 1, []byte{0}}, Matrix{}, api.ErrSingular},
		{Matrix{2, 2, []byte{0, 1, 1, 0}}, Matrix{2, 2, []byte{0, 1, 1, 0}}, api.OK}, {Matrix{2, 2, []byte{1, 7, 0, 1}}, Matrix{2, 2, []byte{1, 7, 0, 1}}, api.OK},
		{Matrix{3, 3, []byte{0, 1, 0, 0, 0, 1, 1, 0, 0}}, Matrix{3, 3, []byte{0, 0, 1, 1, 0, 0, 0, 1, 0}}, api.OK},
		{Matrix{2, 2, []byte{1, 2, 1, 2}}, Matrix{}, api.ErrSingular}, {Matrix{2, 2, []byte{1, 2, 2, 4}}, Matrix{}, api.ErrSingular}, {Matrix{2, 2, make([]byte, 4)}, Matrix{}, api.ErrSingular},
		{Matrix{2, 2, []byte{0, 1, 0, 1}}, Matrix{}, api.ErrSingular}, {Matrix{2, 2, []byte{1, 0, 1, 0}}, Matrix{}, api.ErrSingular}, {Matrix{2, 2, []byte{1, 1, 0, 0}}, Matrix{}, api.ErrSingular},
		{Matrix{3, 3, []byte{1, 2, 3, 4, 5, 6, 5, 7, 5}}, Matrix{}, api.ErrSingular}, {Matrix{255, 255, make([]byte, 65025)}, Matrix{}, api.ErrSingular},
		{Matrix{1, 2, []byte{1, 2}}, Matrix{}, api.ErrSize}, {Matrix{2, 1, []byte{1, 2}}, Matrix{}, api.ErrSize}, {Matrix{0, 1, nil}, Matrix{}, api.ErrSize}, {Matrix{1, 0, nil}, Matrix{}, api.ErrSize},
	} {
		if got, e := Invert(f, c.m); !same(got, c.want) || e != c.e {
			t.Errorf("Invert(%v): %v, %d, not %v, %d", c.m, got, e, c.want, c.e)
		}
	}
	for _, m := range wrong() {
		if got, e := Invert(f, m); e != api.ErrSize || !none(got) {
			t.Errorf("Invert(%v): %v, %d", m, got, e)
		}
	}
}

// determinant: of a square one, by its first row.
func determinant(f *gf.Tables, m Matrix) byte {
	if m.Rows == 0 {
		return 1
	}
	var sum byte
	for k := range m.Cols {
		less := Matrix{m.Rows - 1, m.Cols - 1, nil}
		for i := 1; i < m.Rows; i++ {
			for j := range m.Cols {
				if j != k {
					less.Data = append(less.Data, at(m, i, j))
				}
			}
		}
		sum ^= f.Mul(at(m, 0, k), determinant(f, less))
	}
	return sum
}

// few: square matrices of few unlike elements, so that many of them have no inverse.
func few() []Matrix {
	var list []Matrix
	for n := range 5 {
		for seed := range 300 {
			m := mixedMatrix(seed, n, n)
			for i := range m.Data {
				m.Data[i] = []byte{0, 0, 1, 1, 2, 3, 3, 0, 255}[int(m.Data[i])%(2+seed%8)]
			}
			list = append(list, m)
		}
	}
	return list
}

// TestInvertOfFew: there is an inverse just where the determinant isn't 0, where the rank is as many as its rows; by it the product is the identity, from both sides.
func TestInvertOfFew(t *testing.T) {
	f := gf.New()
	singular := 0
	for _, m := range few() {
		got, e := Invert(f, m)
		if determinant(f, m) == 0 {
			singular++
			if e != api.ErrSingular || !none(got) || Rank(f, m) >= m.Rows {
				t.Fatalf("Invert(%v): %v, %d; Rank: %d", m, got, e, Rank(f, m))
			}
			continue
		}
		if e != api.OK || !same(product(f, m, got), one(m.Rows)) || !same(product(f, got, m), one(m.Rows)) || Rank(f, m) != m.Rows {
			t.Fatalf("Invert(%v): %v, %d; Rank: %d", m, got, e, Rank(f, m))
		}
	}
	if singular < 100 || singular > len(few())-100 {
		t.Errorf("%d of %d are singular", singular, len(few()))
	}
}

func TestInvertGreat(t *testing.T) {
	f := gf.New()
	for i, n := range []int{5, 17, 64, 255} {
		m := mixedMatrix(i, n, n)
		got, e := Invert(f, m)
		if e != api.OK || !same(product(f, m, got), one(n)) || Rank(f, m) != n {
			t.Errorf("of %d rows: %d", n, e)
		}
		copy(m.Data[(n-1)*n:], m.Data[:n])
		if got, e := Invert(f, m); e != api.ErrSingular || !none(got) || Rank(f, m) != n-1 {
			t.Errorf("of %d rows, two of them the same: %d, rank %d", n, e, Rank(f, m))
		}
	}
}

func TestRank(t *testing.T) {
	f := gf.New()
	for _, c := range []struct {
		m    Matrix
		want int
	}{
		{Matrix{}, 0}, {Matrix{5, 0, nil}, 0}, {Matrix{0, 5, nil}, 0}, {Matrix{3, 4, make([]byte, 12)}, 0}, {one(1), 1}, {one(7), 7}, {one(255), 255},
		{Matrix{1, 3, []byte{0, 0, 5}}, 1}, {Matrix{3, 1, []byte{0, 0, 5}}, 1}, {Matrix{3, 1, []byte{1, 2, 3}}, 1}, {Matrix{1, 3, []byte{1, 2, 3}}, 1},
		{Matrix{2, 3, []byte{1, 2, 3, 2, 4, 6}}, 1}, {Matrix{2, 3, []byte{1, 2, 3, 2, 4, 7}}, 2}, {Matrix{3, 2, []byte{1, 2, 3, 4, 5, 6}}, 2}, {Matrix{3, 2, []byte{1, 0, 2, 0, 3, 0}}, 1},
		{Matrix{3, 3, []byte{1, 2, 3, 4, 5, 6, 5, 7, 5}}, 2}, {Matrix{3, 3, []byte{0, 0, 3, 0, 5, 6, 0, 0, 9}}, 2}, {Matrix{4, 2, []byte{0, 0, 0, 1, 0, 0, 1, 0}}, 2},
	} {
		if got := Rank(f, c.m); got != c.want {
			t.Errorf("Rank(%v): %d, not %d", c.m, got, c.want)
		}
	}
	for _, m := range wrong() {
		if got := Rank(f, m); got != 0 {
			t.Errorf("Rank(%v): %d", m, got)
		}
	}
}

// TestRankOfProducts: of so many unlike powers, mixed into more rows and columns, the rank is as many.
func TestRankOfProducts(t *testing.T) {
	f := gf.New()
	for _, n := range []int{0, 1, 2, 5, 20, 60} {
		for _, c := range [][2]int{{0, 0}, {0, 3}, {3, 0}, {1, 1}, {40, 7}, {100, 195}} {
			tall, _ := Powers(f, n+c[0], n)
			wide := Matrix{n, n + c[1], nil}
			for k := range n {
				for x := range n + c[1] {
					wide.Data = append(wide.Data, power(f, byte(x), k))
				}
			}
			m := product(f, tall, wide)
			if got := Rank(f, m); got != n {
				t.Errorf("Rank of %d times %d: %d, not %d", m.Rows, m.Cols, got, n)
			}
		}
	}
}

// TestPowersInverted: any k unlike rows of Powers(t, n, k) are inverted.
func TestPowersInverted(t *testing.T) {
	f := gf.New()
	for _, c := range [][2]int{{255, 1}, {255, 2}, {255, 9}, {255, 100}, {255, 255}, {40, 12}, {8, 8}, {8, 3}, {1, 1}, {0, 0}} {
		n, k := c[0], c[1]
		m, _ := Powers(f, n, k)
		for seed := range 12 {
			picked, e := Pick(m, unlike(seed, n)[:k]...)
			if e != api.OK {
				t.Fatalf("Pick: %d", e)
			}
			got, e := Invert(f, picked)
			if e != api.OK || k < 50 && !same(product(f, picked, got), one(k)) || Rank(f, picked) != k {
				t.Fatalf("%d rows of %d: %d", k, n, e)
			}
			if k > 100 {
				break
			}
		}
	}
	for bits := range 1 << 9 {
		var rows []int
		for i := range 9 {
			if bits>>i&1 == 1 {
				rows = append(rows, i)
			}
		}
		m, _ := Powers(f, 9, len(rows))
		picked, _ := Pick(m, rows...)
		if _, e := Invert(f, picked); e != api.OK {
			t.Fatalf("rows %v: %d", rows, e)
		}
	}
}

// unlike: the numbers below n, in an order that is another one for each seed.
func unlike(seed, n int) []int {
	by := mixed.Bytes(seed, n*2)
	list := make([]int, n)
	for i := range list {
		list[i] = i
	}
	slices.SortFunc(list, func(a, b int) int {
		return (int(by[a*2])<<8 + int(by[a*2+1])) - (int(by[b*2])<<8 + int(by[b*2+1]))
	})
	return list
}

func TestApply(t *testing.T) {
	f := gf.New()
	for _, c := range []struct {
		m       Matrix
		columns [][]byte
		want    [][]byte
		e       api.Errno
	}{
		{Matrix{}, nil, nil, api.OK}, {Matrix{3, 0, nil}, nil, [][]byte{nil, nil, nil}, api.OK}, {Matrix{0, 2, nil}, [][]byte{{1}, {2}}, nil, api.OK},
		{one(2), [][]byte{{1, 2, 3}, {4, 5, 6}}, [][]byte{{1, 2, 3}, {4, 5, 6}}, api.OK}, {one(2), [][]byte{nil, {}}, [][]byte{nil, nil}, api.OK},
		{Matrix{1, 2, []byte{1, 1}}, [][]byte{{1, 2, 3}, {4, 5, 6}}, [][]byte{{5, 7, 5}}, api.OK}, {Matrix{1, 2, []byte{1, 2}}, [][]byte{{5}, {1}}, [][]byte{{7}}, api.OK},
		{Matrix{3, 1, []byte{0, 1, 2}}, [][]byte{{1, 128}}, [][]byte{{0, 0}, {1, 128}, {2, 29}}, api.OK},
		{one(2), nil, nil, api.ErrSize}, {one(2), [][]byte{{1}}, nil, api.ErrSize}, {one(2), [][]byte{{1}, {2}, {3}}, nil, api.ErrSize}, {one(2), [][]byte{{1}, {2, 3}, {4}}, nil, api.ErrSize},
		{Matrix{}, [][]byte{{1}}, nil, api.ErrSize}, {one(2), [][]byte{{1}, {2, 3}}, nil, api.ErrLength}, {one(2), [][]byte{{1, 2}, {3}}, nil, api.ErrLength}, {one(2), [][]byte{nil, {3}}, nil, api.ErrLength},
		{one(3), [][]byte{{3}, {3}, nil}, nil, api.ErrLength}, {Matrix{0, 2, nil}, [][]byte{{1}, {2, 3}}, nil, api.ErrLength},
	} {
		if got, e := Apply(f, c.m, c.columns...); !slices.EqualFunc(got, c.want, bytes.Equal) || e != c.e {
			t.Errorf("Apply(%v, %v): %v, %d, not %v, %d", c.m, c.columns, got, e, c.want, c.e)
		}
	}
	for _, m := range wrong() {
		for _, columns := range [][][]byte{nil, {{1}}, {{1}, {2}}, {{1}, {}}, make([][]byte, 256)} {
			if got, e := Apply(f, m, columns...); e != api.ErrSize || len(got) != 0 {
				t.Errorf("Apply(%v, %v): %v, %d", m, columns, got, e)
			}
		}
	}
}

// TestApplyIsMul: the columns as rows of a matrix.
func TestApplyIsMul(t *testing.T) {
	f := gf.New()
	for _, c := range [][3]int{{1, 1, 1}, {4, 3, 9}, {255, 7, 200}, {7, 255, 30}, {16, 16, 255}} {
		a, b := mixedMatrix(1, c[0], c[1]), mixedMatrix(2, c[1], c[2])
		var columns [][]byte
		for i := range b.Rows {
			columns = append(columns, b.Data[i*b.Cols:][:b.Cols])
		}
		got, e := Apply(f, a, columns...)
		want := product(f, a, b)
		if e != api.OK || len(got) != a.Rows || !bytes.Equal(slices.Concat(got...), want.Data) {
			t.Errorf("of %v: %d", c, e)
		}
	}
	long := mixed.Bytes(3, 5000)
	got, e := Apply(f, Matrix{2, 2, []byte{0, 3, 1, 0}}, long, long)
	if e != api.OK || len(got) != 2 || !bytes.Equal(got[0], f.Scale(3, long)) || !bytes.Equal(got[1], long) {
		t.Errorf("of long columns, both one: %d", e)
	}
}

// answers: all lists that the calls answer of two square ones of the same size.
func answers(f *gf.Tables, a, b Matrix, rows []int, columns [][]byte) [][]byte {
	list := [][]byte{a.Row(0), a.Row(1), Clone(a).Data}
	add := func(m Matrix, e api.Errno) { list = append(list, m.Data) }
	add(New(a.Rows, a.Cols))
	add(Identity(a.Rows))
	add(Powers(f, a.Rows, a.Cols))
	add(Mul(f, a, b))
	add(Mul(f, a, a))
	add(Pick(a, rows...))
	add(Pick(a, 0, 1))
	add(Invert(f, a))
	add(Invert(f, b))
	applied, _ := Apply(f, a, columns...)
	return append(list, applied...)
}

// pairs: square ones of which what is answered might be a part.
func pairs() [][2]Matrix {
	return [][2]Matrix{
		{one(2), one(2)}, {one(2), {2, 2, make([]byte, 4)}}, {mixedMatrix(1, 4, 4), one(4)}, {mixedMatrix(3, 4, 4), mixedMatrix(4, 4, 4)},
		{{4, 4, make([]byte, 16)}, mixedMatrix(4, 4, 4)}, {{2, 2, []byte{0, 1, 1, 0}}, {2, 2, []byte{1, 2, 2, 4}}}, {{2, 2, []byte{1}}, one(2)}, {one(2), {3, 3, []byte{1, 2}}},
	}
}

// columnsFor: as many as a matrix has, of three bytes each.
func columnsFor(m Matrix) [][]byte {
	var list [][]byte
	for i := range m.Cols {
		list = append(list, mixed.Bytes(i+7, 3))
	}
	return list
}

// spare: the same list with room behind it, in which something stands.
func spare(list []byte) []byte { return append(slices.Clone(list), mixed.Bytes(99, 20)...)[:len(list)] }

// TestLeavesArguments: neither the lists nor their spare room are changed.
func TestLeavesArguments(t *testing.T) {
	f := gf.New()
	for _, c := range pairs() {
		a, b := Matrix{c[0].Rows, c[0].Cols, spare(c[0].Data)}, Matrix{c[1].Rows, c[1].Cols, spare(c[1].Data)}
		rows := append([]int{0, 1, 1, 0}, 7, 7, 7)
		columns := columnsFor(a)
		for i := range columns {
			columns[i] = spare(columns[i])
		}
		room := append(slices.Clone(columns), []byte{9}, []byte{8})
		for _, used := range []int{0, 4, 7} {
			answers(f, a, b, rows[:used], room[:len(columns)])
			answers(f, b, a, rows[:used], room[:len(columns)])
		}
		answers(f, a, a, rows[:4], room[:2])
		Rank(f, a)
		Rank(f, b)
		Right(a)
		for i, m := range []Matrix{a, b} {
			was := spare(c[i].Data)
			if !bytes.Equal(m.Data[:cap(m.Data)][:len(was)+20], was[:len(was)+20]) {
				t.Errorf("%v, %v: the matrix %d is changed", c[0], c[1], i)
			}
		}
		for i, column := range columns {
			if was := spare(mixed.Bytes(i+7, 3)); !bytes.Equal(column[:23], was[:23]) || !bytes.Equal(room[i], was) {
				t.Errorf("%v, %v: the column %d is changed", c[0], c[1], i)
			}
		}
		if !slices.Equal(rows, []int{0, 1, 1, 0, 7, 7, 7}) || len(room) != len(columns)+2 || room[len(columns)][0] != 9 {
			t.Errorf("%v, %v: the rows or the columns' list are changed", c[0], c[1])
		}
	}
}

// spoil: turns all bits of a list, its spare room too.
func spoil(list []byte) {
	list = list[:cap(list)]
	for i := range list {
		list[i] = ^list[i]
	}
}

// TestAnswersApart: what is answered shares nothing with an argument, nor with another answer, nor do any two lists of one.
func TestAnswersApart(t *testing.T) {
	f := gf.New()
	rows := []int{1, 0}
	for _, c := range pairs() {
		a, b := Clone(c[0]), Clone(c[1])
		columns := columnsFor(a)
		first, second := answers(f, a, b, rows, columns), answers(f, a, b, rows, columns)
		kept := answers(f, c[0], c[1], rows, columnsFor(a))
		for i := range first {
			spoil(first[i])
			first[i] = nil
			for j := range first {
				if j > i && !bytes.Equal(first[j], kept[j]) || !bytes.Equal(second[j], kept[j]) {
					t.Fatalf("%v, %v: behind a change of answer %d the answer %d is another one", c[0], c[1], i, j)
				}
			}
			if !same(a, c[0]) || !same(b, c[1]) || !slices.EqualFunc(columns, columnsFor(a), bytes.Equal) {
				t.Fatalf("%v, %v: behind a change of answer %d they are %v, %v, %v", c[0], c[1], i, a, b, columns)
			}
		}
		spoil(a.Data)
		spoil(b.Data)
		for _, column := range columns {
			spoil(column)
		}
		if !slices.EqualFunc(second, kept, bytes.Equal) {
			t.Fatalf("%v, %v: behind a change of them the answers are others", c[0], c[1])
		}
	}
}

// TestTablesStay: what was called, refused calls too, is in no later answer.
func TestTablesStay(t *testing.T) {
	f := gf.New()
	for _, c := range pairs() {
		answers(f, c[0], c[1], []int{9}, columnsFor(c[0]))
	}
	if *f != *gf.New() {
		t.Errorf("used tables are others than new ones")
	}
}
