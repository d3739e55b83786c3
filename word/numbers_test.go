package word

import (
	"math/big"
	"slices"
	"testing"
)

// edges: numbers at which a sum, a product or a quotient may leave its limits or change its sign.
var edges = []int64{
	Least, Least + 1, Least + 2, Least / 2, Least/2 - 1, Least/2 + 1,
	-1 << 32, -1<<32 - 1, -1<<31 - 1, -1 << 31, -3037000500, -3037000499,
	-1000003, -10, -7, -3, -2, -1, 0, 1, 2, 3, 7, 10, 1000003,
	3037000499, 3037000500, 1<<31 - 1, 1 << 31, 1<<32 - 1, 1 << 32,
	Most / 2, Most/2 + 1, Most/2 + 2, Most - 2, Most - 1, Most,
}

// mixed: numbers of all lengths and both signs, the same at each run.
func mixed(count int) []int64 {
	var list []int64
	w := uint64(0x9e3779b97f4a7c15)
	for i := range count {
		w ^= w << 13
		w ^= w >> 7
		w ^= w << 17
		list = append(list, int64(w)>>(i*7%64))
	}
	return list
}

// pairs calls check with each two of the edges and of many other numbers.
func pairs(check func(a, b int64)) {
	list := append(slices.Clone(edges), mixed(300)...)
	for _, a := range list {
		for _, b := range list {
			check(a, b)
		}
	}
}

// held: a number of any length, as the document holds it.
func held(n *big.Int) int64 {
	if n.IsInt64() {
		return n.Int64()
	}
	if n.Sign() < 0 {
		return Least
	}
	return Most
}

// floor: the quotient rounded down and what it leaves, in numbers of any length; b isn't 0.
func floor(a, b int64) (*big.Int, *big.Int) {
	d := big.NewInt(b)
	q, r := new(big.Int).QuoRem(big.NewInt(a), d, new(big.Int))
	if r.Sign() != 0 && r.Sign() != d.Sign() {
		q.Sub(q, big.NewInt(1))
		r.Add(r, d)
	}
	return q, r
}

func TestLimits(t *testing.T) {
	if most, least := int64(Most), int64(Least); most != 9223372036854775807 || least != -9223372036854775808 {
		t.Errorf("Most %d, Least %d", most, least)
	}
}

func TestClamp(t *testing.T) {
	for _, c := range []struct{ n, low, high, want int64 }{
		{5, 1, 9, 5}, {0, 1, 9, 1}, {10, 1, 9, 9}, {1, 1, 9, 1}, {9, 1, 9, 9},
		{4, 4, 4, 4}, {3, 4, 4, 4}, {5, 4, 4, 4},
		{-5, -9, -1, -5}, {-10, -9, -1, -9}, {0, -9, -1, -1},
		{0, 9, 1, 9}, {1, 9, 1, 9}, {5, 9, 1, 9}, {9, 9, 1, 9}, {10, 9, 1, 9},
		{Least, 0, 1, 0}, {Most, 0, 1, 1}, {Least, Least, Most, Least}, {Most, Least, Most, Most},
		{0, Most, Least, Most}, {Most, Most, Least, Most}, {Most, Least, Least, Least}, {Least, Most, Most, Most},
	} {
		if got := Clamp(c.n, c.low, c.high); got != c.want {
			t.Errorf("Clamp(%d, %d, %d): %d, not %d", c.n, c.low, c.high, got, c.want)
		}
	}
}

func TestClampWithin(t *testing.T) {
	for _, low := range edges {
		for _, high := range edges {
			for _, n := range edges {
				want := n
				switch {
				case n < low || high < low:
					want = low
				case n > high:
					want = high
				}
				if got := Clamp(n, low, high); got != want {
					t.Fatalf("Clamp(%d, %d, %d): %d, not %d", n, low, high, got, want)
				}
			}
		}
	}
}

func TestAddSubMulEdges(t *testing.T) {
	for _, c := range []struct {
		name      string
		got, want int64
	}{
		{"2 + 3", Add(2, 3), 5},
		{"Most + 1", Add(Most, 1), Most},
		{"Most + 0", Add(Most, 0), Most},
		{"Most - 1 + 1", Add(Most-1, 1), Most},
		{"Most + Most", Add(Most, Most), Most},
		{"Least + -1", Add(Least, -1), Least},
		{"Least + Least", Add(Least, Least), Least},
		{"Most + Least", Add(Most, Least), -1},
		{"2 - 3", Sub(2, 3), -1},
		{"0 - Least", Sub(0, Least), Most},
		{"-1 - Least", Sub(-1, Least), Most},
		{"-2 - Least", Sub(-2, Least), Most - 1},
		{"Least - 1", Sub(Least, 1), Least},
		{"Least - Least", Sub(Least, Least), 0},
		{"Least - Most", Sub(Least, Most), Least},
		{"Most - -1", Sub(Most, -1), Most},
		{"-3 * 4", Mul(-3, 4), -12},
		{"Least * -1", Mul(Least, -1), Most},
		{"-1 * Least", Mul(-1, Least), Most},
		{"Least * 1", Mul(Least, 1), Least},
		{"Least * 2", Mul(Least, 2), Least},
		{"Least * Least", Mul(Least, Least), Most},
		{"Most * Least", Mul(Most, Least), Least},
		{"Most * Most", Mul(Most, Most), Most},
		{"Most * 0", Mul(Most, 0), 0},
		{"2^62 * 2", Mul(1<<62, 2), Most},
		{"-2^62 * 2", Mul(-1<<62, 2), Least},
	} {
		if c.got != c.want {
			t.Errorf("%s: %d, not %d", c.name, c.got, c.want)
		}
	}
}

func TestAddSubMulHeld(t *testing.T) {
	pairs(func(a, b int64) {
		x, y := big.NewInt(a), big.NewInt(b)
		if got, want := Add(a, b), held(new(big.Int).Add(x, y)); got != want {
			t.Fatalf("Add(%d, %d): %d, not %d", a, b, got, want)
		}
		if got, want := Sub(a, b), held(new(big.Int).Sub(x, y)); got != want {
			t.Fatalf("Sub(%d, %d): %d, not %d", a, b, got, want)
		}
		if got, want := Mul(a, b), held(new(big.Int).Mul(x, y)); got != want {
			t.Fatalf("Mul(%d, %d): %d, not %d", a, b, got, want)
		}
	})
}

// TestSum: where a sum is held on its way, the order counts.
func TestSum(t *testing.T) {
	for _, c := range []struct {
		list []int64
		want int64
	}{
		{nil, 0}, {[]int64{}, 0}, {[]int64{-4}, -4}, {[]int64{1, 2, 3, 4, 5}, 15},
		{[]int64{Most}, Most}, {[]int64{Least}, Least},
		{[]int64{Most, 1, -1}, Most - 1}, {[]int64{Most, -1, 1}, Most}, {[]int64{-1, 1, Most}, Most},
		{[]int64{Least, -1, 1}, Least + 1}, {[]int64{1, Least, -1}, Least},
		{[]int64{Most, Most, Least, Least}, Least}, {[]int64{Most, Least, Most, Least}, -2},
	} {
		given := slices.Clone(c.list)
		if got := Sum(given...); got != c.want {
			t.Errorf("Sum(%v): %d, not %d", c.list, got, c.want)
		}
		if !slices.Equal(given, c.list) {
			t.Errorf("Sum(%v) made its list %v", c.list, given)
		}
	}
}

func TestAbs(t *testing.T) {
	for _, c := range []struct {
		n, held int64
		word    uint64
	}{
		{0, 0, 0}, {1, 1, 1}, {-1, 1, 1}, {7, 7, 7}, {-7, 7, 7}, {Most, Most, Most}, {-Most, Most, Most},
		{Least, Most, 1 << 63}, {Least + 2, Most - 1, 1<<63 - 2},
	} {
		if got := Abs(c.n); got != c.held {
			t.Errorf("Abs(%d): %d, not %d", c.n, got, c.held)
		}
		if got := Abs64(c.n); got != c.word {
			t.Errorf("Abs64(%d): %d, not %d", c.n, got, c.word)
		}
	}
	for _, n := range mixed(2000) {
		want := new(big.Int).Abs(big.NewInt(n))
		if Abs(n) != held(want) || Abs64(n) != want.Uint64() {
			t.Fatalf("%d: Abs %d, Abs64 %d, not %d", n, Abs(n), Abs64(n), want)
		}
	}
}

func TestWideEdges(t *testing.T) {
	for _, c := range []struct {
		a, b, high int64
		low        uint64
	}{
		{0, 0, 0, 0}, {0, Least, 0, 0}, {6, 7, 0, 42}, {-1, 1, -1, 1<<64 - 1}, {1, -1, -1, 1<<64 - 1}, {-1, -1, 0, 1},
		{Least, Least, 1 << 62, 0}, {Least, -1, 0, 1 << 63}, {-1, Least, 0, 1 << 63}, {Least, 1, -1, 1 << 63},
		{Most, Most, 1<<62 - 1, 1}, {Most, Least, -1 << 62, 1 << 63}, {1 << 32, 1 << 32, 1, 0}, {-1 << 32, 1 << 32, -1, 0},
	} {
		if high, low := Wide(c.a, c.b); high != c.high || low != c.low {
			t.Errorf("Wide(%d, %d): %d, %d, not %d, %d", c.a, c.b, high, low, c.high, c.low)
		}
	}
}

func TestWideIsProduct(t *testing.T) {
	pairs(func(a, b int64) {
		high, low := Wide(a, b)
		got := new(big.Int).Lsh(big.NewInt(high), 64)
		got.Add(got, new(big.Int).SetUint64(low))
		if want := new(big.Int).Mul(big.NewInt(a), big.NewInt(b)); got.Cmp(want) != 0 {
			t.Fatalf("Wide(%d, %d): %d, not %d", a, b, got, want)
		}
	})
}

func TestFloorRestEdges(t *testing.T) {
	for _, c := range []struct{ a, b, floor, rest int64 }{
		{7, 2, 3, 1}, {-7, 2, -4, 1}, {7, -2, -4, -1}, {-7, -2, 3, -1},
		{6, 2, 3, 0}, {-6, 2, -3, 0}, {6, -2, -3, 0}, {-6, -2, 3, 0},
		{1, 2, 0, 1}, {-1, 2, -1, 1}, {1, -2, -1, -1}, {-1, -2, 0, -1},
		{0, 5, 0, 0}, {0, -5, 0, 0},
		{0, 0, 0, 0}, {1, 0, 0, 0}, {-1, 0, 0, 0}, {Most, 0, 0, 0}, {Least, 0, 0, 0},
		{Least, -1, Most, 0}, {Least + 1, -1, Most, 0}, {Least, 1, Least, 0}, {Most, -1, -Most, 0},
		{Least, Least, 1, 0}, {Most, Most, 1, 0}, {Least, Most, -2, Most - 1}, {Most, Least, -1, -1},
		{1, Least, -1, Least + 1}, {-1, Least, 0, -1}, {-1, Most, -1, Most - 1},
		{Least, 3, -3074457345618258603, 1}, {Most, -3, -3074457345618258603, -2},
	} {
		if got := Floor(c.a, c.b); got != c.floor {
			t.Errorf("Floor(%d, %d): %d, not %d", c.a, c.b, got, c.floor)
		}
		if got := Rest(c.a, c.b); got != c.rest {
			t.Errorf("Rest(%d, %d): %d, not %d", c.a, c.b, got, c.rest)
		}
	}
}

func TestFloorRestRoundDown(t *testing.T) {
	pairs(func(a, b int64) {
		if b == 0 {
			if Floor(a, b) != 0 || Rest(a, b) != 0 {
				t.Fatalf("%d by 0: %d, %d", a, Floor(a, b), Rest(a, b))
			}
			return
		}
		q, r := floor(a, b)
		if got, want := Floor(a, b), held(q); got != want {
			t.Fatalf("Floor(%d, %d): %d, not %d", a, b, got, want)
		}
		if got := Rest(a, b); got != r.Int64() {
			t.Fatalf("Rest(%d, %d): %d, not %d", a, b, got, r)
		}
	})
}

// TestFloorTimesAndRest: P1.5, wherever the quotient is one and isn't held.
func TestFloorTimesAndRest(t *testing.T) {
	pairs(func(a, b int64) {
		if b == 0 || a == Least && b == -1 {
			return
		}
		got := new(big.Int).Mul(big.NewInt(Floor(a, b)), big.NewInt(b))
		got.Add(got, big.NewInt(Rest(a, b)))
		if got.Cmp(big.NewInt(a)) != 0 {
			t.Fatalf("%d by %d: floor %d, rest %d: %d", a, b, Floor(a, b), Rest(a, b), got)
		}
	})
}
