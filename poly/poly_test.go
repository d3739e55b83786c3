package poly

import (
	"bytes"
	"slices"
	"testing"

	"backstay/api"
	"backstay/gf"
	"backstay/mixed"
)

// all: each list of at most so many of these coefficients, those with noughts at their end too.
func all(most int, coefficients ...byte) [][]byte {
	list := [][]byte{nil}
	from := 0
	for range most {
		upTo := len(list)
		for _, p := range list[from:upTo] {
			for _, c := range coefficients {
				list = append(list, append(slices.Clone(p), c))
			}
		}
		from = upTo
	}
	return list
}

// long: so many coefficients, of all values, others for each seed; the last one isn't 0.
func long(seed, count int) []byte {
	p := mixed.Bytes(seed, count)
	if count > 0 {
		p[count-1] |= 1
	}
	return p
}

// some: polynomials of many sizes, with noughts at the end or without.
func some() [][]byte {
	list := all(3, 0, 1, 2, 255)
	for i, n := range []int{1, 2, 5, 8, 9, 30, 31, 100} {
		list = append(list, long(i, n), append(long(i+50, n), 0), append(long(i+90, n), 0, 0, 0))
	}
	return append(list, make([]byte, 40), append(make([]byte, 40), 7))
}

// bare: does it have no noughts at its end?
func bare(p []byte) bool { return len(p) == 0 || p[len(p)-1] != 0 }

// same: as polynomials, noughts at the end or not.
func same(a, b []byte) bool {
	for i := range max(len(a), len(b)) {
		if at(a, i) != at(b, i) {
			return false
		}
	}
	return true
}

// at: the coefficient of x^i.
func at(p []byte, i int) byte {
	if i < 0 || i >= len(p) {
		return 0
	}
	return p[i]
}

// sum: place by place.
func sum(a, b []byte) []byte {
	out := make([]byte, max(len(a), len(b)))
	for i := range out {
		out[i] = at(a, i) ^ at(b, i)
	}
	return out
}

// product: each coefficient of it by itself.
func product(f *gf.Tables, a, b []byte) []byte {
	out := make([]byte, len(a)+len(b))
	for i := range out {
		for j := range a {
			out[i] ^= f.Mul(a[j], at(b, i-j))
		}
	}
	return out
}

// value: each coefficient times x to the power of its place.
func value(f *gf.Tables, p []byte, x byte) byte {
	var out byte
	for i, c := range p {
		power, _ := f.Pow(x, i)
		out ^= f.Mul(c, power)
	}
	return out
}

// roots: what is 0 at these elements alone, as often as each stands there; its highest coefficient is 1.
func roots(f *gf.Tables, list ...byte) []byte {
	p := []byte{1}
	for _, x := range list {
		p = product(f, p, []byte{x, 1})[:len(p)+1]
	}
	return p
}

func TestTrimAndDegree(t *testing.T) {
	for _, c := range []struct {
		p, want []byte
		degree  int
	}{
		{nil, nil, -1}, {[]byte{}, nil, -1}, {[]byte{0}, nil, -1}, {[]byte{0, 0, 0}, nil, -1}, {[]byte{1}, []byte{1}, 0},
		{[]byte{255, 0}, []byte{255}, 0}, {[]byte{0, 1}, []byte{0, 1}, 1}, {[]byte{0, 0, 128, 0, 0}, []byte{0, 0, 128}, 2},
		{[]byte{1, 0, 2}, []byte{1, 0, 2}, 2}, {[]byte{1, 0, 2, 0}, []byte{1, 0, 2}, 2}, {append([]byte{3}, make([]byte, 9000)...), []byte{3}, 0},
		{append(make([]byte, 9000), 3), append(make([]byte, 9000), 3), 9000}, {make([]byte, 9000), nil, -1},
	} {
		if got := Trim(c.p); !bytes.Equal(got, c.want) {
			t.Errorf("Trim(%v): %v, not %v", c.p, got, c.want)
		}
		if got := Degree(c.p); got != c.degree {
			t.Errorf("Degree(%v): %d, not %d", c.p, got, c.degree)
		}
	}
}

func TestAdd(t *testing.T) {
	for _, c := range []struct{ a, b, want []byte }{
		{nil, nil, nil}, {nil, []byte{}, nil}, {nil, []byte{1}, []byte{1}}, {[]byte{1}, nil, []byte{1}}, {[]byte{0, 0}, nil, nil},
		{nil, []byte{5, 0}, []byte{5}}, {[]byte{1, 2}, []byte{1, 2}, nil}, {[]byte{1, 2}, []byte{3, 2}, []byte{2}},
		{[]byte{1, 2, 3}, []byte{1}, []byte{0, 2, 3}}, {[]byte{1}, []byte{1, 2, 3}, []byte{0, 2, 3}}, {[]byte{1, 2, 0, 0}, []byte{4, 2, 0}, []byte{5}},
	} {
		if got := Add(c.a, c.b); !bytes.Equal(got, c.want) {
			t.Errorf("Add(%v, %v): %v, not %v", c.a, c.b, got, c.want)
		}
	}
	for _, a := range some() {
		for _, b := range some() {
			if got := Add(a, b); !bare(got) || !same(got, sum(a, b)) {
				t.Fatalf("Add(%v, %v): %v", a, b, got)
			}
		}
	}
}

func TestMul(t *testing.T) {
	f := gf.New()
	for _, c := range []struct{ a, b, want []byte }{
		{[]byte{1, 1}, []byte{1, 1}, []byte{1, 0, 1}}, {nil, nil, nil}, {nil, []byte{1, 2}, nil}, {[]byte{1, 2}, []byte{0, 0}, nil}, {[]byte{0}, []byte{0}, nil},
		{[]byte{7}, []byte{1}, []byte{7}}, {[]byte{2}, []byte{128}, []byte{29}}, {[]byte{0, 1}, []byte{5, 6, 7}, []byte{0, 5, 6, 7}},
		{[]byte{1, 0, 0}, []byte{3, 4, 0}, []byte{3, 4}}, {[]byte{0, 0, 2, 0}, []byte{0, 128, 0}, []byte{0, 0, 0, 29}},
	} {
		if got := Mul(f, c.a, c.b); !bytes.Equal(got, c.want) {
			t.Errorf("Mul(%v, %v): %v, not %v", c.a, c.b, got, c.want)
		}
	}
	for _, a := range some() {
		for _, b := range some() {
			if got := Mul(f, a, b); !bare(got) || !same(got, product(f, a, b)) {
				t.Fatalf("Mul(%v, %v): %v", a, b, got)
			}
		}
		if got := Mul(f, a, a); !same(got, product(f, a, a)) {
			t.Fatalf("Mul(%v, itself): %v", a, got)
		}
	}
}

func TestEval(t *testing.T) {
	f := gf.New()
	for _, c := range []struct {
		p       []byte
		x, want byte
	}{
		{nil, 0, 0}, {nil, 9, 0}, {[]byte{}, 255, 0}, {[]byte{0, 0}, 3, 0}, {[]byte{7, 8, 9}, 0, 7}, {[]byte{0, 8, 9}, 0, 0}, {[]byte{5}, 200, 5},
		{[]byte{1, 2, 4}, 1, 7}, {[]byte{3, 2, 1}, 2, 3}, {[]byte{3, 2, 1, 0, 0}, 2, 3}, {[]byte{0, 0, 0, 0, 0, 0, 0, 0, 1}, 2, 29},
	} {
		if got := Eval(f, c.p, c.x); got != c.want {
			t.Errorf("Eval(%v, %d): %d, not %d", c.p, c.x, got, c.want)
		}
	}
	for _, p := range append(some(), long(3, 300), long(4, 3000)) {
		for x := range 256 {
			if got, want := Eval(f, p, byte(x)), value(f, p, byte(x)); got != want {
				t.Fatalf("Eval(%v, %d): %d, not %d", p, x, got, want)
			}
		}
	}
}

// TestEvalOfProductAndSum: P4.4.
func TestEvalOfProductAndSum(t *testing.T) {
	f := gf.New()
	list := append(all(2, 0, 1, 142), long(1, 20), long(2, 33), append(long(3, 7), 0, 0), long(4, 270))
	for _, a := range list {
		for _, b := range list {
			both, together := Mul(f, a, b), Add(a, b)
			for i := range 256 {
				x := byte(i)
				if got, want := Eval(f, both, x), f.Mul(Eval(f, a, x), Eval(f, b, x)); got != want {
					t.Fatalf("%v times %v at %d: %d, not %d", a, b, x, got, want)
				}
				if got, want := Eval(f, together, x), Eval(f, a, x)^Eval(f, b, x); got != want {
					t.Fatalf("%v and %v at %d: %d, not %d", a, b, x, got, want)
				}
			}
		}
	}
}

func TestSlope(t *testing.T) {
	for _, c := range []struct{ p, want []byte }{
		{nil, nil}, {[]byte{0}, nil}, {[]byte{9}, nil}, {[]byte{9, 0, 0}, nil}, {[]byte{9, 8}, []byte{8}}, {[]byte{0, 8}, []byte{8}}, {[]byte{1, 0, 7}, nil},
		{[]byte{1, 2, 3}, []byte{2}}, {[]byte{1, 2, 3, 4}, []byte{2, 0, 4}}, {[]byte{1, 2, 3, 4, 5}, []byte{2, 0, 4}}, {[]byte{1, 0, 3, 4, 0, 0}, []byte{0, 0, 4}},
		{[]byte{1, 2, 3, 0, 5, 6, 7, 0}, []byte{2, 0, 0, 0, 6}},
	} {
		if got := Slope(c.p); !bytes.Equal(got, c.want) {
			t.Errorf("Slope(%v): %v, not %v", c.p, got, c.want)
		}
	}
	for _, p := range some() {
		got := Slope(p)
		if !bare(got) {
			t.Fatalf("Slope(%v): %v", p, got)
		}
		for i := range len(p) + 1 {
			want := at(p, i+1)
			if i%2 == 1 {
				want = 0
			}
			if at(got, i) != want {
				t.Fatalf("Slope(%v) at %d: %d, not %d", p, i, at(got, i), want)
			}
		}
	}
}

func TestDivide(t *testing.T) {
	f := gf.New()
	for _, c := range []struct {
		a, b, q, r []byte
		e          api.Errno
	}{
		{nil, nil, nil, nil, api.ErrZero}, {[]byte{1, 2}, nil, nil, nil, api.ErrZero}, {[]byte{1, 2}, []byte{0}, nil, nil, api.ErrZero},
		{nil, []byte{0, 0, 0}, nil, nil, api.ErrZero}, {make([]byte, 9), make([]byte, 4), nil, nil, api.ErrZero},
		{nil, []byte{3}, nil, nil, api.OK}, {[]byte{0, 0}, []byte{3, 1}, nil, nil, api.OK}, {[]byte{6, 4}, []byte{2}, []byte{3, 2}, nil, api.OK},
		{[]byte{1, 0, 1}, []byte{1, 1}, []byte{1, 1}, nil, api.OK}, {[]byte{1, 0, 1, 0, 0}, []byte{1, 1, 0}, []byte{1, 1}, nil, api.OK},
		{[]byte{5, 6}, []byte{0, 0, 1}, nil, []byte{5, 6}, api.OK}, {[]byte{5, 0}, []byte{0, 1}, nil, []byte{5}, api.OK},
		{[]byte{5, 6, 7, 8}, []byte{0, 0, 1}, []byte{7, 8}, []byte{5, 6}, api.OK}, {[]byte{5, 6}, []byte{5, 6}, []byte{1}, nil, api.OK},
		{[]byte{0, 0, 0, 1}, []byte{1, 1}, []byte{1, 1, 1}, []byte{1}, api.OK}, {[]byte{0, 1}, []byte{0, 2}, []byte{142}, nil, api.OK},
		{[]byte{5, 0, 0, 8}, []byte{0, 0, 1}, []byte{0, 8}, []byte{5}, api.OK},
	} {
		q, r, e := Divide(f, c.a, c.b)
		if !bytes.Equal(q, c.q) || !bytes.Equal(r, c.r) || e != c.e {
			t.Errorf("Divide(%v, %v): %v, %v, %d, not %v, %v, %d", c.a, c.b, q, r, e, c.q, c.r, c.e)
		}
	}
}

// TestDivideOfAny: the quotient times the divisor, and the rest, are what was divided.
func TestDivideOfAny(t *testing.T) {
	f := gf.New()
	list := append(some(), all(2, 0, 1, 77)...)
	for _, a := range append(list, long(7, 256), long(8, 1000)) {
		for _, b := range list {
			q, r, e := Divide(f, a, b)
			if same(b, nil) {
				if len(q) != 0 || len(r) != 0 || e != api.ErrZero {
					t.Fatalf("Divide(%v, %v): %v, %v, %d", a, b, q, r, e)
				}
				continue
			}
			if e != api.OK || !bare(q) || !bare(r) || Degree(r) >= Degree(b) || !same(a, sum(product(f, q, b), r)) {
				t.Fatalf("Divide(%v, %v): %v, %v, %d", a, b, q, r, e)
			}
		}
	}
}

func TestCommon(t *testing.T) {
	f := gf.New()
	for _, c := range []struct{ a, b, want []byte }{
		{nil, nil, nil}, {[]byte{0, 0}, []byte{0}, nil}, {nil, []byte{7}, []byte{1}}, {[]byte{7, 0}, []byte{0, 0}, []byte{1}}, {[]byte{7}, []byte{9}, []byte{1}},
		{nil, []byte{4, 2}, []byte{2, 1}}, {[]byte{4, 2, 0}, []byte{0}, []byte{2, 1}}, {[]byte{4, 2}, []byte{4, 2}, []byte{2, 1}},
		{[]byte{4, 2}, []byte{6, 3}, []byte{2, 1}}, {[]byte{0, 0, 5}, []byte{0, 0, 0, 3}, []byte{0, 0, 1}}, {[]byte{0, 0, 5}, []byte{1}, []byte{1}},
		{[]byte{1, 0, 1}, []byte{1, 1}, []byte{1, 1}}, {[]byte{1, 1}, []byte{2, 1}, []byte{1}}, {[]byte{3, 1}, []byte{0, 3, 1, 0, 0}, []byte{3, 1}},
	} {
		if got := Common(f, c.a, c.b); !bytes.Equal(got, c.want) {
			t.Errorf("Common(%v, %v): %v, not %v", c.a, c.b, got, c.want)
		}
		if got := Common(f, c.b, c.a); !bytes.Equal(got, c.want) {
			t.Errorf("Common(%v, %v): %v, not %v", c.b, c.a, got, c.want)
		}
	}
}

// TestCommonOfRoots: of products of x and elements the common one is of those that both have, as often as both have them.
func TestCommonOfRoots(t *testing.T) {
	f := gf.New()
	for n := range 4096 {
		var in, other, both []byte
		for i, x := range []byte{0, 1, 200} {
			k, l := n>>(4*i)&3, n>>(4*i+2)&3
			in = append(in, bytes.Repeat([]byte{x}, k)...)
			other = append(other, bytes.Repeat([]byte{x}, l)...)
			both = append(both, bytes.Repeat([]byte{x}, min(k, l))...)
		}
		a := append(f.Scale(byte(n%255+1), roots(f, in...)), make([]byte, n%3)...)
		b := append(f.Scale(byte(n%254+2), roots(f, other...)), make([]byte, n%2)...)
		if got, want := Common(f, a, b), roots(f, both...); !bytes.Equal(got, want) {
			t.Fatalf("Common(%v, %v): %v, not %v", a, b, got, want)
		}
	}
}

// anywhere: is it 0 at an element?
func anywhere(f *gf.Tables, p []byte) bool {
	for x := range 256 {
		if value(f, p, byte(x)) == 0 {
			return true
		}
	}
	return false
}

// TestCommonWithoutRoots: it may be one that is 0 nowhere.
func TestCommonWithoutRoots(t *testing.T) {
	f := gf.New()
	var none [][]byte
	for c := range 256 {
		if p := []byte{byte(c), 1, 1}; !anywhere(f, p) {
			none = append(none, p)
		}
	}
	if len(none) != 128 {
		t.Fatalf("%d of degree 2 are 0 nowhere", len(none))
	}
	for i, p := range none {
		other := none[(i+1)%len(none)]
		a := f.Scale(3, product(f, p, roots(f, 1, 2, byte(i))))
		b := product(f, p, other)
		if got := Common(f, a, b); !bytes.Equal(got, p) {
			t.Fatalf("Common(%v, %v): %v, not %v", a, b, got, p)
		}
		if got := Common(f, p, other); !bytes.Equal(got, []byte{1}) {
			t.Fatalf("Common(%v, %v): %v", p, other, got)
		}
	}
}

func TestThrough(t *testing.T) {
	f := gf.New()
	for _, c := range []struct {
		list []Point
		want []byte
		e    api.Errno
	}{
		{nil, nil, api.OK}, {[]Point{{0, 0}}, nil, api.OK}, {[]Point{{7, 0}}, nil, api.OK}, {[]Point{{7, 9}}, []byte{9}, api.OK}, {[]Point{{0, 9}}, []byte{9}, api.OK},
		{[]Point{{1, 5}, {2, 5}}, []byte{5}, api.OK}, {[]Point{{1, 1}, {2, 2}}, []byte{0, 1}, api.OK}, {[]Point{{0, 0}, {1, 1}, {2, 4}}, []byte{0, 0, 1}, api.OK},
		{[]Point{{0, 1}, {1, 1}, {2, 7}, {3, 7}}, []byte{1, 1, 1}, api.OK}, {[]Point{{2, 0}, {9, 0}, {0, 0}}, nil, api.OK},
		{[]Point{{1, 5}, {1, 5}}, nil, api.ErrPoints}, {[]Point{{1, 5}, {1, 6}}, nil, api.ErrPoints}, {[]Point{{0, 0}, {0, 0}}, nil, api.ErrPoints},
		{[]Point{{0, 1}, {3, 3}, {4, 2}, {0, 2}}, nil, api.ErrPoints}, {[]Point{{3, 1}, {5, 6}, {5, 6}, {9, 9}}, nil, api.ErrPoints}, {[]Point{{255, 1}, {0, 6}, {255, 6}}, nil, api.ErrPoints},
	} {
		got, e := Through(f, c.list...)
		if !bytes.Equal(got, c.want) || e != c.e {
			t.Errorf("Through(%v): %v, %d, not %v, %d", c.list, got, e, c.want, c.e)
		}
	}
	if got, e := Through(f, Point{1, 5}, Point{2, 5}); !bytes.Equal(got, []byte{5}) || e != api.OK {
		t.Errorf("both one by one: %v, %d", got, e)
	}
}

// TestThroughMany: any points, at most all places, in any order, are gone through; one place twice isn't.
func TestThroughMany(t *testing.T) {
	f := gf.New()
	for n := 1; n <= 256; n++ {
		ys := long(n, n)
		list := make([]Point, n)
		for i := range list {
			list[i] = Point{byte(i*75 + n), ys[i]}
		}
		p, e := Through(f, list...)
		if e != api.OK || !bare(p) || len(p) > n {
			t.Fatalf("through %d: %v, %d", n, p, e)
		}
		for _, c := range list {
			if got := Eval(f, p, c.X); got != c.Y {
				t.Fatalf("through %d at %d: %d, not %d", n, c.X, got, c.Y)
			}
		}
		twice := slices.Insert(slices.Clone(list), n/2, Point{list[n*2/3].X, byte(n)})
		if got, e := Through(f, twice...); len(got) != 0 || e != api.ErrPoints {
			t.Fatalf("through %d, one of them twice: %v, %d", n, got, e)
		}
	}
	if got, e := Through(f, make([]Point, 100000)...); len(got) != 0 || e != api.ErrPoints {
		t.Errorf("through one, over and over: %v, %d", got, e)
	}
}

// TestThroughFinds: a polynomial is found from as many of its points as it has coefficients, and from more.
func TestThroughFinds(t *testing.T) {
	f := gf.New()
	for _, p := range some() {
		for _, more := range []int{0, 1, 9} {
			var list []Point
			for i := range len(p) + more {
				x := byte(200 - i*3)
				list = append(list, Point{x, value(f, p, x)})
			}
			if got, e := Through(f, list...); e != api.OK || !bare(got) || !same(got, p) {
				t.Fatalf("of %v, from %d points: %v, %d", p, len(list), got, e)
			}
		}
	}
}

// answers: all lists that the calls answer of two.
func answers(f *gf.Tables, a, b []byte, list []Point) [][]byte {
	q, r, _ := Divide(f, a, b)
	through, _ := Through(f, list...)
	return [][]byte{Trim(a), Add(a, b), Add(b, a), Mul(f, a, b), q, r, through, Common(f, a, b), Common(f, b, a), Slope(a)}
}

// pairs: lists of which what is answered might be a part: one is 0, both are, they are the same, one divides the other one.
func pairs(f *gf.Tables) [][2][]byte {
	p := long(5, 12)
	return [][2][]byte{
		{p, nil}, {nil, p}, {nil, nil}, {p, p}, {p, []byte{1}}, {[]byte{1}, p}, {p, {0, 0}}, {p[:5], p}, {p, p[:5]}, {product(f, p, p), p},
		{[]byte{3, 1}, []byte{3, 1}}, {p, {0, 1}}, {{0, 1}, p}, {append(slices.Clone(p), 0, 0), []byte{5, 9, 0}},
	}
}

// TestLeavesArguments: neither the lists nor their spare room are changed.
func TestLeavesArguments(t *testing.T) {
	f := gf.New()
	for _, c := range pairs(f) {
		a := append(slices.Clone(c[0]), long(6, 30)...)
		b := append(slices.Clone(c[1]), long(7, 30)...)
		list := []Point{{1, 2}, {3, 4}, {9, 9}, {9, 9}}
		wasA, wasB, wasList := slices.Clone(a), slices.Clone(b), slices.Clone(list)
		for _, used := range []int{0, 3} {
			answers(f, a[:len(c[0])], b[:len(c[1])], list[:used])
		}
		answers(f, a[:len(c[0])], a[:len(c[0])], list)
		Eval(f, a[:len(c[0])], 3)
		Degree(a[:len(c[0])])
		if !bytes.Equal(a, wasA) || !bytes.Equal(b, wasB) || !slices.Equal(list, wasList) {
			t.Errorf("%v, %v: %v, %v, %v, not %v, %v, %v", c[0], c[1], a, b, list, wasA, wasB, wasList)
		}
	}
}

// TestAnswersApart: what is answered shares nothing with an argument, nor with another answer, nor do both lists of one.
func TestAnswersApart(t *testing.T) {
	f := gf.New()
	for _, c := range pairs(f) {
		a, b := slices.Clone(c[0]), slices.Clone(c[1])
		points := []Point{{1, 2}, {3, 4}}
		first, second := answers(f, a, b, points), answers(f, a, b, points)
		for i := range first {
			kept := answers(f, c[0], c[1], points)
			spoil(first[i])
			first[i] = nil
			for j := range first {
				if j > i && !bytes.Equal(first[j], kept[j]) || !bytes.Equal(second[j], kept[j]) {
					t.Fatalf("%v, %v: behind a change of answer %d the answer %d is another one", c[0], c[1], i, j)
				}
			}
			if !bytes.Equal(a, c[0]) || !bytes.Equal(b, c[1]) {
				t.Fatalf("%v, %v: behind a change of answer %d they are %v, %v", c[0], c[1], i, a, b)
			}
		}
		kept := answers(f, c[0], c[1], points)
		spoil(a)
		spoil(b)
		clear(points)
		if !slices.EqualFunc(second, kept, bytes.Equal) {
			t.Fatalf("%v, %v: behind a change of them the answers are others", c[0], c[1])
		}
	}
}

// spoil: turns all bits of a list, its spare room too.
func spoil(p []byte) {
	p = p[:cap(p)]
	for i := range p {
		p[i] = ^p[i]
	}
}

// TestTablesStay: what was called, refused calls too, is in no later answer.
func TestTablesStay(t *testing.T) {
	f := gf.New()
	for _, c := range pairs(f) {
		answers(f, c[0], c[1], []Point{{1, 1}, {1, 1}})
	}
	if *f != *gf.New() {
		t.Errorf("used tables are others than new ones")
	}
}
