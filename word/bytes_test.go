package word

import (
	"bytes"
	"math/big"
	"slices"
	"testing"
)

// sizes: the three calls as one, by how many bytes each puts.
var sizes = []struct {
	size int
	put  func(out []byte, w uint64) []byte
}{
	{2, func(out []byte, w uint64) []byte { return Put16(out, uint16(w)) }},
	{4, func(out []byte, w uint64) []byte { return Put32(out, uint32(w)) }},
	{8, Put64},
}

func TestPut(t *testing.T) {
	for _, c := range []struct {
		name      string
		got, want []byte
	}{
		{"Put16", Put16(nil, 0x0102), []byte{1, 2}},
		{"Put16 of 0", Put16(nil, 0), []byte{0, 0}},
		{"Put16 of ones", Put16([]byte{9}, 0xffff), []byte{9, 255, 255}},
		{"Put32", Put32([]byte{}, 0x01020304), []byte{1, 2, 3, 4}},
		{"Put32 of 0", Put32([]byte{7}, 0), []byte{7, 0, 0, 0, 0}},
		{"Put32 of ones", Put32(nil, 0xffffffff), []byte{255, 255, 255, 255}},
		{"Put64", Put64([]byte{8, 9}, 0x0102030405060708), []byte{8, 9, 1, 2, 3, 4, 5, 6, 7, 8}},
		{"Put64 of 1", Put64(nil, 1), []byte{0, 0, 0, 0, 0, 0, 0, 1}},
		{"Put64 of the highest bit", Put64(nil, 1<<63), []byte{128, 0, 0, 0, 0, 0, 0, 0}},
		{"Put64 of ones", Put64(nil, 1<<64-1), bytes.Repeat([]byte{255}, 8)},
		{"one behind the other", Put16(Put32(Put64(nil, 3), 2), 1), []byte{0, 0, 0, 0, 0, 0, 0, 3, 0, 0, 0, 2, 0, 1}},
	} {
		if !bytes.Equal(c.got, c.want) {
			t.Errorf("%s: %v, not %v", c.name, c.got, c.want)
		}
	}
}

// TestPutLeavesArgument: neither the list nor its spare room is changed, and the answer shares nothing with it.
func TestPutLeavesArgument(t *testing.T) {
	for _, s := range sizes {
		for _, used := range []int{0, 1, 5, 24} {
			room := bytes.Repeat([]byte{0xee}, 24)
			given := room[:used]
			got := s.put(given, 0x0102030405060708)
			if !bytes.Equal(room, bytes.Repeat([]byte{0xee}, 24)) {
				t.Errorf("size %d, %d used: the room became %v", s.size, used, room)
			}
			want := slices.Clone(got)
			clear(room)
			if !bytes.Equal(got, want) || len(got) != used+s.size {
				t.Errorf("size %d, %d used: the answer became %v", s.size, used, got)
			}
			for i := range got {
				got[i] = 0x55
			}
			if !bytes.Equal(room, make([]byte, 24)) {
				t.Errorf("size %d, %d used: the answer reaches into the room: %v", s.size, used, room)
			}
		}
	}
}

// TestPutAnswersApart: two answers on one list, and what is appended to them, share nothing.
func TestPutAnswersApart(t *testing.T) {
	for _, s := range sizes {
		given := append(make([]byte, 0, 64), 1, 2, 3)
		a, b := s.put(given, 0), s.put(given, 1<<64-1)
		wantA := append([]byte{1, 2, 3}, make([]byte, s.size)...)
		wantB := append([]byte{1, 2, 3}, bytes.Repeat([]byte{255}, s.size)...)
		if !bytes.Equal(a, wantA) || !bytes.Equal(b, wantB) {
			t.Errorf("size %d: %v and %v", s.size, a, b)
		}
		for range 64 {
			a = append(a, 0x77)
		}
		clear(a)
		if !bytes.Equal(b, wantB) || !bytes.Equal(given, []byte{1, 2, 3}) {
			t.Errorf("size %d: %v and %v, when another answer was cleared", s.size, b, given)
		}
	}
}

func TestGet(t *testing.T) {
	for _, c := range []struct {
		data []byte
		want uint64
	}{
		{nil, 0}, {[]byte{}, 0}, {[]byte{0}, 0}, {[]byte{7}, 7}, {[]byte{255}, 255},
		{[]byte{1, 2}, 0x0102}, {[]byte{1, 2, 3}, 0x010203}, {[]byte{0, 0, 1}, 1},
		{[]byte{1, 2, 3, 4, 5, 6, 7}, 0x01020304050607},
		{[]byte{1, 2, 3, 4, 5, 6, 7, 8}, 0x0102030405060708},
		{[]byte{1, 2, 3, 4, 5, 6, 7, 8, 9}, 0x0102030405060708},
		{[]byte{0, 0, 0, 0, 0, 0, 0, 0, 1}, 0},
		{bytes.Repeat([]byte{255}, 8), 1<<64 - 1},
		{bytes.Repeat([]byte{255}, 1000), 1<<64 - 1},
	} {
		given := slices.Clone(c.data)
		if got := Get(given...); got != c.want {
			t.Errorf("Get(%v): %x, not %x", c.data, got, c.want)
		}
		if !bytes.Equal(given, c.data) {
			t.Errorf("Get(%v) made its bytes %v", c.data, given)
		}
	}
}

// TestGetOfPut: of what was put the same word is got.
func TestGetOfPut(t *testing.T) {
	for _, n := range append(slices.Clone(edges), mixed(500)...) {
		w := uint64(n)
		for _, s := range sizes {
			want := w << (64 - 8*s.size) >> (64 - 8*s.size)
			if got := Get(s.put(nil, w)...); got != want {
				t.Fatalf("size %d: %x, not %x", s.size, got, want)
			}
		}
	}
}

func TestBehindNewer(t *testing.T) {
	for _, c := range []struct {
		a, b   uint32
		behind int
		newer  bool
	}{
		{0, 0, 0, false}, {5, 5, 0, false}, {1<<32 - 1, 1<<32 - 1, 0, false},
		{5, 3, 2, true}, {3, 5, -2, false},
		{1, 1<<32 - 1, 2, true}, {1<<32 - 1, 1, -2, false}, {0, 1<<32 - 1, 1, true}, {1<<32 - 1, 0, -1, false},
		{1<<31 - 1, 0, 1<<31 - 1, true}, {0, 1<<31 - 1, -1<<31 + 1, false},
		{1 << 31, 0, -1 << 31, false}, {0, 1 << 31, -1 << 31, false},
		{1<<31 + 1, 0, -1<<31 + 1, false}, {0, 1<<31 + 1, 1<<31 - 1, true},
		{7, 7 + 1<<31, -1 << 31, false}, {7 + 1<<31, 7, -1 << 31, false},
	} {
		if got := Behind(c.a, c.b); got != c.behind {
			t.Errorf("Behind(%d, %d): %d, not %d", c.a, c.b, got, c.behind)
		}
		if got := Newer(c.a, c.b); got != c.newer {
			t.Errorf("Newer(%d, %d): %v, not %v", c.a, c.b, got, c.newer)
		}
	}
}

// TestOneIsNewer: P1.6, and that Behind is the difference, going round.
func TestOneIsNewer(t *testing.T) {
	pairs(func(x, y int64) {
		a, b := uint32(x), uint32(y)
		d := int64(Behind(a, b))
		if d < -1<<31 || d > 1<<31-1 || (int64(b)+d-int64(a))%(1<<32) != 0 {
			t.Fatalf("Behind(%d, %d): %d", a, b, d)
		}
		one, other := Newer(a, b), Newer(b, a)
		if apart := a-b != 0 && a-b != 1<<31; apart && one == other || !apart && (one || other) {
			t.Fatalf("Newer of %d and %d: %v, %v", a, b, one, other)
		}
	})
}

func TestLog(t *testing.T) {
	for _, c := range []struct {
		w    uint64
		want int
	}{
		{0, 0}, {1, 1}, {2, 2}, {3, 2}, {4, 3}, {255, 8}, {256, 9}, {1<<32 - 1, 32}, {1 << 32, 33}, {1<<63 - 1, 63}, {1 << 63, 64}, {1<<64 - 1, 64},
	} {
		if got := Log(c.w); got != c.want {
			t.Errorf("Log(%d): %d, not %d", c.w, got, c.want)
		}
	}
	for n := range 64 {
		w := uint64(1) << n
		if Log(w) != n+1 || Log(w-1) != n {
			t.Errorf("Log at 2^%d: %d, below it %d", n, Log(w), Log(w-1))
		}
	}
}

func TestRoot(t *testing.T) {
	for _, c := range []struct{ w, want uint64 }{
		{0, 0}, {1, 1}, {2, 1}, {3, 1}, {4, 2}, {8, 2}, {9, 3}, {99, 9}, {100, 10},
		{1<<62 - 1, 1<<31 - 1}, {1 << 62, 1 << 31}, {1 << 63, 3037000499}, {3037000500 * 3037000500, 3037000500},
		{(1<<32 - 1) * (1<<32 - 1), 1<<32 - 1}, {(1<<32-1)*(1<<32-1) - 1, 1<<32 - 2},
		{1<<64 - 1, 1<<32 - 1},
	} {
		if got := Root(c.w); got != c.want {
			t.Errorf("Root(%d): %d, not %d", c.w, got, c.want)
		}
	}
}

func TestRootIsGreatest(t *testing.T) {
	for _, n := range append(slices.Clone(edges), mixed(2000)...) {
		for _, w := range []uint64{uint64(n), uint64(uint32(n)) * uint64(uint32(n)), uint64(uint32(n))*uint64(uint32(n)) - 1} {
			want := new(big.Int).Sqrt(new(big.Int).SetUint64(w)).Uint64()
			if got := Root(w); got != want {
				t.Fatalf("Root(%d): %d, not %d", w, got, want)
			}
		}
	}
}
