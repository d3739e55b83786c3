package gf

import (
	"bytes"
	"math"
	"slices"
	"testing"

	"backstay/api"
	"backstay/mixed"
)

// product: as the document says it: polynomials over the numbers modulo 2, and what is left of their product modulo x^8 + x^4 + x^3 + x^2 + 1.
func product(a, b byte) byte {
	wide := 0
	for i := range 8 {
		if b>>i&1 == 1 {
			wide ^= int(a) << i
		}
	}
	for i := 14; i >= 8; i-- {
		if wide>>i&1 == 1 {
			wide ^= (1<<8 | 1<<4 | 1<<3 | 1<<2 | 1) << (i - 8)
		}
	}
	return byte(wide)
}

// inverse: by trying all.
func inverse(a byte) byte {
	for b := range 256 {
		if product(a, byte(b)) == 1 {
			return byte(b)
		}
	}
	return 0
}

// power: by squares, of a number of any size; a isn't 0.
func power(a byte, n int) byte {
	left := uint64(n)
	if n < 0 {
		a, left = inverse(a), -left
	}
	out := byte(1)
	for ; left > 0; left >>= 1 {
		if left&1 == 1 {
			out = product(out, a)
		}
		a = product(a, a)
	}
	return out
}

// far: numbers at the edges of what an int holds, and about the places where the powers come round.
func far() []int {
	list := []int{
		math.MaxInt, math.MaxInt - 1, math.MaxInt - 254, math.MaxInt - 255, math.MinInt, math.MinInt + 1, math.MinInt + 255,
		math.MaxInt / 255 * 255, math.MinInt / 255 * 255, math.MaxInt / 254, math.MinInt / 254, math.MaxInt / 2, math.MinInt / 2,
	}
	for _, n := range []int{254, 255, 256, 510, 1 << 8, 1 << 16, 1 << 31, 1 << 32, 255 << 40, 1 << 62} {
		list = append(list, n-1, n, n+1, -n-1, -n, -n+1)
	}
	return list
}

func TestPoly(t *testing.T) {
	if n := 1<<8 | 1<<4 | 1<<3 | 1<<2 | 1; Poly != n {
		t.Errorf("Poly: %x, not %x", Poly, n)
	}
}

func TestAdd(t *testing.T) {
	for _, c := range []struct {
		list []byte
		want byte
	}{
		{nil, 0}, {[]byte{}, 0}, {[]byte{0}, 0}, {[]byte{77}, 77}, {[]byte{255}, 255}, {[]byte{5, 3}, 6}, {[]byte{255, 255}, 0},
		{[]byte{1, 2, 4, 8, 16, 32, 64, 128}, 255}, {[]byte{9, 9, 9}, 9}, {[]byte{0x80, 0x80, 1}, 1}, {[]byte{200, 100}, 172},
	} {
		given := slices.Clone(c.list)
		if got := Add(given...); got != c.want {
			t.Errorf("Add(%v): %d, not %d", c.list, got, c.want)
		}
		if !slices.Equal(given, c.list) {
			t.Errorf("Add(%v) made its list %v", c.list, given)
		}
	}
	if Add() != 0 || Add(7) != 7 || Add(1, 2) != 3 {
		t.Errorf("none, one, two: %d, %d, %d", Add(), Add(7), Add(1, 2))
	}
}

// TestAddOfAll: each coefficient is added modulo 2, without carry.
func TestAddOfAll(t *testing.T) {
	for a := range 256 {
		for b := range 256 {
			want := 0
			for i := range 8 {
				want += (a>>i + b>>i) % 2 << i
			}
			if got := Add(byte(a), byte(b)); int(got) != want {
				t.Fatalf("Add(%d, %d): %d, not %d", a, b, got, want)
			}
		}
	}
	long := make([]byte, 100001)
	for i := range long {
		long[i] = 3
	}
	if got := Add(long...); got != 3 {
		t.Errorf("%d threes: %d", len(long), got)
	}
}

func TestMul(t *testing.T) {
	f := New()
	for _, c := range []struct{ a, b, want byte }{
		{2, 128, 29}, {128, 2, 29}, {3, 7, 9}, {1, 255, 255}, {0, 255, 0}, {255, 0, 0}, {0, 0, 0}, {2, 142, 1}, {16, 16, 29}, {255, 255, 226},
	} {
		if got := f.Mul(c.a, c.b); got != c.want {
			t.Errorf("Mul(%d, %d): %d, not %d", c.a, c.b, got, c.want)
		}
	}
	for a := range 256 {
		for b := range 256 {
			if got, want := f.Mul(byte(a), byte(b)), product(byte(a), byte(b)); got != want {
				t.Fatalf("Mul(%d, %d): %d, not %d", a, b, got, want)
			}
		}
	}
}

func TestInv(t *testing.T) {
	f := New()
	if got, e := f.Inv(0); got != 0 || e != api.ErrZero {
		t.Errorf("Inv(0): %d, %d", got, e)
	}
	for _, c := range []struct{ a, want byte }{{1, 1}, {2, 142}, {142, 2}} {
		if got, e := f.Inv(c.a); got != c.want || e != api.OK {
			t.Errorf("Inv(%d): %d, %d, not %d", c.a, got, e, c.want)
		}
	}
	for a := 1; a < 256; a++ {
		got, e := f.Inv(byte(a))
		if e != api.OK || product(got, byte(a)) != 1 {
			t.Errorf("Inv(%d): %d, %d", a, got, e)
		}
	}
}

func TestDiv(t *testing.T) {
	f := New()
	for a := range 256 {
		if got, e := f.Div(byte(a), 0); got != 0 || e != api.ErrZero {
			t.Errorf("Div(%d, 0): %d, %d", a, got, e)
		}
		for b := 1; b < 256; b++ {
			got, e := f.Div(byte(a), byte(b))
			if want := product(byte(a), inverse(byte(b))); e != api.OK || got != want {
				t.Fatalf("Div(%d, %d): %d, %d, not %d", a, b, got, e, want)
			}
		}
	}
}

func TestExp(t *testing.T) {
	f := New()
	for _, c := range []struct {
		n    int
		want byte
	}{
		{0, 1}, {1, 2}, {7, 128}, {8, 29}, {254, 142}, {255, 1}, {256, 2}, {-1, 142}, {-254, 2}, {-255, 1}, {-256, 142},
	} {
		if got := f.Exp(c.n); got != c.want {
			t.Errorf("Exp(%d): %d, not %d", c.n, got, c.want)
		}
	}
	up, down := byte(1), byte(1)
	for n := range 1100 {
		if got := f.Exp(n); got != up {
			t.Fatalf("Exp(%d): %d, not %d", n, got, up)
		}
		if got := f.Exp(-n); got != down {
			t.Fatalf("Exp(%d): %d, not %d", -n, got, down)
		}
		up, down = product(up, 2), product(down, 142)
	}
	for _, n := range far() {
		if got, want := f.Exp(n), power(2, n); got != want {
			t.Errorf("Exp(%d): %d, not %d", n, got, want)
		}
	}
}

func TestLog(t *testing.T) {
	f := New()
	if n, e := f.Log(0); n != 0 || e != api.ErrZero {
		t.Errorf("Log(0): %d, %d", n, e)
	}
	a := byte(1)
	for want := range 255 {
		if n, e := f.Log(a); n != want || e != api.OK {
			t.Errorf("Log(%d): %d, %d, not %d", a, n, e, want)
		}
		if got := f.Exp(want); got != a {
			t.Errorf("Exp(%d): %d, not %d", want, got, a)
		}
		a = product(a, 2)
	}
}

func TestPow(t *testing.T) {
	f := New()
	for _, c := range []struct {
		a    byte
		n    int
		want byte
		e    api.Errno
	}{
		{0, 0, 1, api.OK}, {0, 1, 0, api.OK}, {0, 255, 0, api.OK}, {0, math.MaxInt, 0, api.OK},
		{0, -1, 0, api.ErrZero}, {0, -255, 0, api.ErrZero}, {0, math.MinInt, 0, api.ErrZero},
		{1, 0, 1, api.OK}, {1, -7, 1, api.OK}, {1, math.MinInt, 1, api.OK}, {7, 0, 1, api.OK}, {255, 0, 1, api.OK},
		{7, 1, 7, api.OK}, {3, 2, 5, api.OK}, {2, 8, 29, api.OK}, {2, -1, 142, api.OK}, {142, -1, 2, api.OK}, {7, 255, 1, api.OK}, {7, 256, 7, api.OK},
	} {
		if got, e := f.Pow(c.a, c.n); got != c.want || e != c.e {
			t.Errorf("Pow(%d, %d): %d, %d, not %d, %d", c.a, c.n, got, e, c.want, c.e)
		}
	}
}

// TestPowOfAll: by multiplying, one behind the other; and far from 0 by squares.
func TestPowOfAll(t *testing.T) {
	f := New()
	for a := 1; a < 256; a++ {
		up, down := byte(1), byte(1)
		inv := inverse(byte(a))
		for n := range 520 {
			if got, e := f.Pow(byte(a), n); got != up || e != api.OK {
				t.Fatalf("Pow(%d, %d): %d, %d, not %d", a, n, got, e, up)
			}
			if got, e := f.Pow(byte(a), -n); got != down || e != api.OK {
				t.Fatalf("Pow(%d, %d): %d, %d, not %d", a, -n, got, e, down)
			}
			up, down = product(up, byte(a)), product(down, inv)
		}
		for _, n := range far() {
			if got, e := f.Pow(byte(a), n); got != power(byte(a), n) || e != api.OK {
				t.Fatalf("Pow(%d, %d): %d, %d, not %d", a, n, got, e, power(byte(a), n))
			}
		}
	}
}

// TestField: P3.4: the laws of a field, for all elements.
func TestField(t *testing.T) {
	f := New()
	for i := range 256 {
		a := byte(i)
		if Add(a, 0) != a || f.Mul(a, 1) != a || Add(a, a) != 0 {
			t.Fatalf("%d: with 0 %d, times 1 %d, twice %d", a, Add(a, 0), f.Mul(a, 1), Add(a, a))
		}
		if inv, e := f.Inv(a); a != 0 && (e != api.OK || f.Mul(a, inv) != 1) {
			t.Fatalf("%d: Inv %d, %d", a, inv, e)
		}
		for j := range 256 {
			b := byte(j)
			ab := f.Mul(a, b)
			if ab != f.Mul(b, a) || Add(a, b) != Add(b, a) {
				t.Fatalf("%d, %d: turned round %d, %d", a, b, f.Mul(b, a), Add(b, a))
			}
			if ab == 0 && a != 0 && b != 0 {
				t.Fatalf("%d times %d is 0", a, b)
			}
			if !fits(f, a, b, ab) {
				t.Fatalf("%d, %d: not so with each third one", a, b)
			}
		}
	}
}

// fits: with each third element, do the laws hold that are of three?
func fits(f *Tables, a, b, ab byte) bool {
	for k := range 256 {
		c := byte(k)
		if f.Mul(ab, c) != f.Mul(a, f.Mul(b, c)) || f.Mul(a, b^c) != ab^f.Mul(a, c) {
			return false
		}
	}
	return true
}

// TestExpComesToEach: P3.5, from anywhere on.
func TestExpComesToEach(t *testing.T) {
	f := New()
	for _, from := range []int{0, 1, 100, 255, -1, -127, -255, -300, math.MinInt, math.MaxInt - 254, 1 << 40} {
		var seen [256]int
		for n := range 255 {
			seen[f.Exp(from+n)]++
		}
		for a, n := range seen {
			if want := min(a, 1); n != want {
				t.Fatalf("from %d on: %d times %d", from, n, a)
			}
		}
	}
}

func TestScale(t *testing.T) {
	f := New()
	for _, c := range []struct {
		a          byte
		data, want []byte
	}{
		{7, nil, nil}, {7, []byte{}, nil}, {0, []byte{1, 2, 255}, []byte{0, 0, 0}}, {1, []byte{1, 0, 255}, []byte{1, 0, 255}},
		{2, []byte{0, 1, 128, 142}, []byte{0, 2, 29, 1}}, {255, []byte{0}, []byte{0}},
	} {
		if got := f.Scale(c.a, c.data); !bytes.Equal(got, c.want) {
			t.Errorf("Scale(%d, %v): %v, not %v", c.a, c.data, got, c.want)
		}
	}
	for a := range 256 {
		for _, n := range []int{1, 2, 7, 8, 9, 256, 1200, 3001} {
			data := mixed.Bytes(a, n)
			got := f.Scale(byte(a), data)
			if len(got) != n {
				t.Fatalf("Scale(%d, %d bytes): %d", a, n, len(got))
			}
			for i, b := range data {
				if got[i] != product(byte(a), b) {
					t.Fatalf("Scale(%d, ..) at %d: %d of %d", a, i, got[i], b)
				}
			}
		}
	}
}

func TestMix(t *testing.T) {
	f := New()
	for _, c := range []struct {
		into       []byte
		a          byte
		data, want []byte
	}{
		{nil, 3, nil, nil}, {nil, 3, []byte{1, 2}, nil}, {[]byte{}, 3, []byte{1}, nil},
		{[]byte{1, 2}, 3, nil, []byte{1, 2}}, {[]byte{1, 2}, 3, []byte{}, []byte{1, 2}},
		{[]byte{1, 2, 3}, 1, []byte{255}, []byte{254, 2, 3}}, {[]byte{5}, 2, []byte{128, 9, 9}, []byte{24}},
		{[]byte{1, 2, 3}, 0, []byte{9, 9, 9}, []byte{1, 2, 3}}, {[]byte{0, 0, 7}, 2, []byte{1, 128, 0}, []byte{2, 29, 7}},
	} {
		into := slices.Clone(c.into)
		f.Mix(into, c.a, c.data)
		if !bytes.Equal(into, c.want) {
			t.Errorf("Mix(%v, %d, %v): %v, not %v", c.into, c.a, c.data, into, c.want)
		}
	}
}

// TestMixOfAny: with all elements, and lists that are as long as one another or not.
func TestMixOfAny(t *testing.T) {
	f := New()
	sizes := []int{0, 1, 2, 7, 8, 9, 256, 1200}
	for a := range 256 {
		for _, n := range sizes {
			for _, m := range sizes {
				was, data := mixed.Bytes(a+1, n), mixed.Bytes(a+2, m)
				into := slices.Clone(was)
				f.Mix(into, byte(a), data)
				for i, got := range into {
					want := was[i]
					if i < m {
						want ^= product(byte(a), data[i])
					}
					if got != want {
						t.Fatalf("Mix(%d bytes, %d, %d bytes) at %d: %d, not %d", n, a, m, i, got, want)
					}
				}
			}
		}
	}
}

// TestMixTwice: what was added twice is gone.
func TestMixTwice(t *testing.T) {
	f := New()
	was, data := mixed.Bytes(1, 90), mixed.Bytes(2, 80)
	into := slices.Clone(was)
	f.Mix(into, 33, data)
	f.Mix(into, 33, data)
	if !bytes.Equal(into, was) {
		t.Errorf("%v, not %v", into, was)
	}
}

// TestMixWithin: both lists lie in one another: what counts is data as it was handed in.
func TestMixWithin(t *testing.T) {
	f := New()
	for _, c := range []struct{ into, data int }{{0, 0}, {0, 1}, {1, 0}, {0, 5}, {5, 0}, {3, 39}, {39, 3}} {
		list := mixed.Bytes(c.into, 40)
		was := slices.Clone(list)
		f.Mix(list[c.into:], 7, list[c.data:])
		for i, got := range list {
			want := was[i]
			if at := i - c.into + c.data; i >= c.into && at < len(was) {
				want ^= product(7, was[at])
			}
			if got != want {
				t.Fatalf("into from %d on, data from %d on: at %d %d, not %d", c.into, c.data, i, got, want)
			}
		}
	}
}

func TestDot(t *testing.T) {
	f := New()
	for _, c := range []struct {
		a, b []byte
		want byte
	}{
		{nil, nil, 0}, {nil, []byte{1, 2}, 0}, {[]byte{1, 2}, []byte{}, 0}, {[]byte{9}, []byte{0}, 0}, {[]byte{2}, []byte{128}, 29},
		{[]byte{1, 2}, []byte{5, 1, 9}, 7}, {[]byte{5, 1, 9}, []byte{1, 2}, 7}, {[]byte{3, 3}, []byte{7, 7}, 0}, {[]byte{255, 0, 1}, []byte{1, 200, 255}, 0},
	} {
		if got := f.Dot(c.a, c.b); got != c.want {
			t.Errorf("Dot(%v, %v): %d, not %d", c.a, c.b, got, c.want)
		}
	}
	for n := range 70 {
		for m := range 70 {
			a, b := mixed.Bytes(n, n), mixed.Bytes(m+100, m)
			var want byte
			for i := range min(n, m) {
				want ^= product(a[i], b[i])
			}
			if got := f.Dot(a, b); got != want {
				t.Fatalf("Dot(%v, %v): %d, not %d", a, b, got, want)
			}
		}
	}
}

// TestLeavesArguments: neither the bytes nor their spare room are changed, but for those of into as far as data goes.
func TestLeavesArguments(t *testing.T) {
	f := New()
	for _, used := range []int{0, 1, 5, 8, 30} {
		data, into, other := mixed.Bytes(used, 40), mixed.Bytes(used+1, 40), mixed.Bytes(used+2, 40)
		wantData, wantInto, wantOther := slices.Clone(data), slices.Clone(into), slices.Clone(other)
		f.Scale(9, data[:used])
		f.Dot(data[:used], other[:used+3])
		Add(data[:used]...)
		f.Mix(into[:used+3], 9, data[:used])
		if !bytes.Equal(data, wantData) || !bytes.Equal(other, wantOther) {
			t.Errorf("%d used: %v, not %v; %v, not %v", used, data, wantData, other, wantOther)
		}
		if !bytes.Equal(into[used:], wantInto[used:]) {
			t.Errorf("%d used: behind them %v, not %v", used, into[used:], wantInto[used:])
		}
		into = slices.Clone(wantInto)
		f.Mix(into[:used], 9, data)
		if !bytes.Equal(into[used:], wantInto[used:]) {
			t.Errorf("%d used, more data: behind them %v, not %v", used, into[used:], wantInto[used:])
		}
	}
}

// TestAnswersApart: what Scale answers shares nothing with its argument, nor with another answer; nor does Mix keep data.
func TestAnswersApart(t *testing.T) {
	f := New()
	for _, a := range []byte{0, 1, 2, 255} {
		data := mixed.Bytes(3, 20)
		first, second := f.Scale(a, data), f.Scale(a, data)
		kept, was := slices.Clone(second), slices.Clone(data)
		for i := range first {
			first[i] = 0x55
		}
		first = append(first[:3], 0x66)
		if !bytes.Equal(second, kept) || !bytes.Equal(data, was) {
			t.Errorf("Scale(%d, ..): the other answer %v, the argument %v", a, second, data)
		}
		clear(data)
		if !bytes.Equal(second, kept) {
			t.Errorf("Scale(%d, ..): behind the argument's change %v", a, second)
		}
		into := make([]byte, 20)
		f.Mix(into, a, was)
		clear(was)
		if !bytes.Equal(into, kept) {
			t.Errorf("Mix(.., %d, ..): behind the argument's change %v, not %v", a, into, kept)
		}
	}
}

// TestTablesAreTheSame: what was called on tables, refused calls too, is in no later answer.
func TestTablesAreTheSame(t *testing.T) {
	used := New()
	for i := range 256 {
		used.Inv(0)
		used.Log(0)
		used.Div(byte(i), 0)
		used.Pow(0, -i-1)
		used.Exp(-i * 1000)
		used.Mix(mixed.Bytes(i, i), byte(i), used.Scale(byte(i), mixed.Bytes(i, i)))
	}
	if *used != *New() {
		t.Errorf("used tables are others than new ones")
	}
	other := New()
	if used == other {
		t.Errorf("two tables are one")
	}
}
