package crc

import (
	"bytes"
	"hash/crc32"
	"math"
	"slices"
	"testing"

	"backstay/api"
	"backstay/mixed"
)

// words: remainders at the edges, each bit alone, and many others.
func words() []uint32 {
	list := []uint32{0, 0xffffffff, 0xedb88320, 0xdebb20e3, 0xff, 0xffffff00, 0x7fffffff}
	for i := range 32 {
		list = append(list, 1<<i)
	}
	more := mixed.Bytes(77, 400)
	for i := 0; i < len(more); i += 4 {
		list = append(list, uint32(more[i])<<24|uint32(more[i+1])<<16|uint32(more[i+2])<<8|uint32(more[i+3]))
	}
	return list
}

// stepped: a remainder behind so many steps, as the document says it, in a number that is wide enough.
func stepped(rest uint32, count int) uint32 {
	n := uint64(rest)
	for range count {
		low := n % 2
		n = n / 2
		if low == 1 {
			n ^= 0xedb88320
		}
	}
	return uint32(n)
}

func TestStep(t *testing.T) {
	for _, c := range []struct {
		rest uint32
		b    byte
		want uint32
	}{
		{0, 0, 0}, {0, 1, 0x77073096}, {0, 2, 0xee0e612c}, {0, 128, 0xedb88320}, {0, 255, 0x2d02ef8d},
		{1, 0, 0x77073096}, {255, 255, 0}, {1, 3, 0xee0e612c}, {0x100, 0, 1}, {0xffffff00, 0, 0xffffff},
		{0xffffffff, 255, 0xffffff}, {0xffffffff, 0, 0x2dfd1072}, {0x80000000, 0, 0x800000},
	} {
		if got := Step(c.rest, c.b); got != c.want {
			t.Errorf("Step(%x, %x): %x, not %x", c.rest, c.b, got, c.want)
		}
	}
	for _, rest := range words() {
		for b := range 256 {
			if got, want := Step(rest, byte(b)), stepped(rest^uint32(b), 8); got != want {
				t.Fatalf("Step(%x, %x): %x, not %x", rest, b, got, want)
			}
		}
	}
}

func TestSum(t *testing.T) {
	table := New()
	for _, c := range []struct {
		text string
		want uint32
	}{
		{"", 0}, {"123456789", 0xcbf43926}, {"a", 0xe8b7be43}, {"abc", 0x352441c2},
		{"\x00", 0xd202ef8d}, {"\x00\x00\x00\x00", 0x2144df1c}, {"\xff\xff\xff\xff", 0xffffffff},
	} {
		if got := table.Sum([]byte(c.text)); got != c.want {
			t.Errorf("Sum(%q): %x, not %x", c.text, got, c.want)
		}
	}
	if got := table.Sum(nil); got != 0 {
		t.Errorf("Sum(nil): %x", got)
	}
	for n := range 600 {
		data := mixed.Bytes(n, n)
		if got, want := table.Sum(data), crc32.ChecksumIEEE(data); got != want {
			t.Fatalf("Sum of %d bytes: %x, not %x", n, got, want)
		}
	}
}

// TestSumOfEachByte: each entry of the table, with each highest byte of the remainder.
func TestSumOfEachByte(t *testing.T) {
	table := New()
	for a := range 256 {
		for b := range 256 {
			data := []byte{byte(a), byte(b)}
			if got, want := table.Sum(data), crc32.ChecksumIEEE(data); got != want {
				t.Fatalf("Sum(%v): %x, not %x", data, got, want)
			}
		}
	}
}

// TestMore: by Step, as the document says it, from any sum on.
func TestMore(t *testing.T) {
	table := New()
	for i, sum := range words() {
		data := mixed.Bytes(i, i%40)
		rest := ^sum
		for _, b := range data {
			rest = Step(rest, b)
		}
		if got := table.More(sum, data); got != ^rest {
			t.Fatalf("More(%x, %v): %x, not %x", sum, data, got, ^rest)
		}
		if got := table.More(sum, nil); got != sum {
			t.Fatalf("More(%x, nil): %x", sum, got)
		}
	}
}

// TestMoreGoesOn: in pieces the sum is the same as at once.
func TestMoreGoesOn(t *testing.T) {
	table := New()
	data := mixed.Bytes(5, 100)
	want := crc32.ChecksumIEEE(data)
	for cut := range len(data) + 1 {
		if got := table.More(table.Sum(data[:cut]), data[cut:]); got != want {
			t.Fatalf("cut at %d: %x, not %x", cut, got, want)
		}
	}
}

func TestSeal(t *testing.T) {
	table := New()
	for _, c := range []struct{ data, want []byte }{
		{nil, []byte{0, 0, 0, 0}},
		{[]byte{}, []byte{0, 0, 0, 0}},
		{[]byte{0}, []byte{0, 0x8d, 0xef, 0x02, 0xd2}},
		{[]byte("123456789"), []byte("123456789\x26\x39\xf4\xcb")},
	} {
		if got := table.Seal(c.data); !bytes.Equal(got, c.want) {
			t.Errorf("Seal(%v): %v, not %v", c.data, got, c.want)
		}
	}
	if Size != 4 {
		t.Errorf("Size: %d", Size)
	}
}

// TestOpenOfSeal: P2.4.
func TestOpenOfSeal(t *testing.T) {
	table := New()
	for n := range 300 {
		data := mixed.Bytes(n, n)
		got, e := table.Open(table.Seal(data))
		if e != api.OK || !bytes.Equal(got, data) {
			t.Fatalf("Open of Seal(%v): %v, %d", data, got, e)
		}
	}
}

func TestOpenRefuses(t *testing.T) {
	table := New()
	sealed := table.Seal([]byte("123456789"))
	for _, c := range []struct {
		name string
		data []byte
		want api.Errno
	}{
		{"nil", nil, api.ErrShort},
		{"no bytes", []byte{}, api.ErrShort},
		{"1 byte", []byte{0}, api.ErrShort},
		{"3 bytes", []byte{0, 0, 0}, api.ErrShort},
		{"3 bytes of more", sealed[:3], api.ErrShort},
		{"4 bytes, not 0", []byte{0, 0, 0, 1}, api.ErrSum},
		{"4 bytes of more", sealed[:4], api.ErrSum},
		{"a byte less", sealed[:len(sealed)-1], api.ErrSum},
		{"without the first byte", sealed[1:], api.ErrSum},
		{"a byte more", append(slices.Clone(sealed), 0), api.ErrSum},
		{"a byte more ahead", append([]byte{0}, sealed...), api.ErrSum},
		{"the highest byte first", []byte("123456789\xcb\xf4\x39\x26"), api.ErrSum},
		{"bits of the sum turned", []byte("123456789\xd9\xc6\x0b\x34"), api.ErrSum},
		{"5 bytes 0", []byte{0, 0, 0, 0, 0}, api.ErrSum},
		{"8 bytes 255", bytes.Repeat([]byte{255}, 8), api.OK},
		{"4 bytes 0", []byte{0, 0, 0, 0}, api.OK},
	} {
		got, e := table.Open(c.data)
		if e != c.want {
			t.Errorf("%s: %d, not %d", c.name, e, c.want)
		}
		if e == api.OK && len(got) != len(c.data)-4 || e != api.OK && len(got) != 0 {
			t.Errorf("%s: %v beside %d", c.name, got, e)
		}
	}
}

// TestOpenOfAny: of any bytes Open tells what holding them against a seal tells.
func TestOpenOfAny(t *testing.T) {
	table := New()
	for i := range 3000 {
		data := mixed.Bytes(i, i%30)
		if i%3 == 0 && len(data) > 4 {
			data = binarySeal(data[4:])
		}
		want := api.OK
		if len(data) < 4 {
			want = api.ErrShort
		} else if !bytes.Equal(data, binarySeal(data[:len(data)-4])) {
			want = api.ErrSum
		}
		if _, e := table.Open(data); e != want {
			t.Fatalf("Open(%v): %d, not %d", data, e, want)
		}
	}
}

// binarySeal: data and the sum that the library tells of it.
func binarySeal(data []byte) []byte {
	s := crc32.ChecksumIEEE(data)
	return append(slices.Clone(data), byte(s), byte(s>>8), byte(s>>16), byte(s>>24))
}

// turn: data with those bits of pattern turned, from a bit on, of a byte the lowest first; nil where they don't fit.
func turn(data []byte, from int, pattern uint32) []byte {
	out := slices.Clone(data)
	for i := range 32 {
		if pattern>>i&1 == 0 {
			continue
		}
		at := from + i
		if at >= 8*len(out) {
			return nil
		}
		out[at/8] ^= 1 << (at % 8)
	}
	return out
}

// TestOpenOfTurned: P2.6, at each place of the bytes and of the sum.
func TestOpenOfTurned(t *testing.T) {
	table := New()
	patterns := words()
	for _, n := range []int{0, 1, 2, 3, 4, 5, 13, 33} {
		sealed := table.Seal(mixed.Bytes(n, n))
		for from := range 8 * len(sealed) {
			for _, p := range patterns {
				data := turn(sealed, from, p|1)
				if data == nil {
					continue
				}
				if got, e := table.Open(data); e != api.ErrSum || len(got) != 0 {
					t.Fatalf("%d bytes, bits %x turned at %d: %v, %d", n, p|1, from, got, e)
				}
			}
		}
	}
}

func TestShift(t *testing.T) {
	var none, one [32]uint32
	for i := range 32 {
		none[i] = 1 << i
		one[i] = 1 << i >> 1
	}
	one[0] = 0xedb88320
	for _, c := range []struct {
		bits int
		want [32]uint32
	}{
		{0, none}, {-1, none}, {-8, none}, {-64, none}, {math.MinInt, none}, {math.MinInt + 1, none}, {1, one},
	} {
		if got := Shift(c.bits); got != c.want {
			t.Errorf("Shift(%d): %x, not %x", c.bits, got, c.want)
		}
	}
	for _, c := range []struct{ bits, steps int }{
		{2, 2}, {7, 7}, {8, 8}, {9, 9}, {31, 31}, {32, 32}, {33, 33}, {62, 62}, {63, 63}, {64, 64},
		{65, 64}, {66, 64}, {128, 64}, {256, 64}, {1 << 31, 64}, {1 << 32, 64}, {1<<32 + 1, 64}, {math.MaxInt, 64},
	} {
		for i, got := range Shift(c.bits) {
			if want := stepped(1<<i, c.steps); got != want {
				t.Fatalf("Shift(%d) at %d: %x, not %x", c.bits, i, got, want)
			}
		}
	}
}

// TestShiftApart: what is done to one answer isn't seen in another one.
func TestShiftApart(t *testing.T) {
	a, b := Shift(8), Shift(8)
	a[0] = 0
	if c := Shift(8); b != c || a == c {
		t.Errorf("%x, then %x", b, c)
	}
}

// TestJoinOfPieces: P2.5.
func TestJoinOfPieces(t *testing.T) {
	table := New()
	for _, n := range []int{0, 1, 2, 9, 64, 300} {
		data := mixed.Bytes(n, n)
		want := table.Sum(data)
		for cut := range n + 1 {
			a, b := table.Sum(data[:cut]), table.Sum(data[cut:])
			if got := Join(a, b, n-cut); got != want {
				t.Fatalf("%d bytes, cut at %d: %x, not %x", n, cut, got, want)
			}
		}
	}
	long := mixed.Bytes(3, 1<<20+77)
	if got := Join(table.Sum(long[:9]), table.Sum(long[9:]), len(long)-9); got != crc32.ChecksumIEEE(long) {
		t.Errorf("%d bytes: %x", len(long), got)
	}
}

func TestJoinOfNone(t *testing.T) {
	for _, n := range []int{0, -1, -2, -8, -1 << 31, math.MinInt + 1, math.MinInt} {
		for _, b := range []uint32{0, 1, 0xffffffff} {
			if got := Join(0x12345678, b, n); got != 0x12345678 {
				t.Errorf("Join(12345678, %x, %d): %x", b, n, got)
			}
		}
	}
}

// TestJoinByStep: any a and b, whether or not they are sums of anything.
func TestJoinByStep(t *testing.T) {
	for _, a := range words() {
		rest := a
		for n := 1; n <= 70; n++ {
			rest = Step(rest, 0)
			for _, b := range []uint32{0, 0xffffffff, 0x9abcdef0} {
				if got := Join(a, b, n); got != rest^b {
					t.Fatalf("Join(%x, %x, %d): %x, not %x", a, b, n, got, rest^b)
				}
			}
		}
	}
}

// TestJoinOfMany: the steps come round behind 2^32 - 1, for the polynomial is a primitive one; so the greatest n are known by small ones.
func TestJoinOfMany(t *testing.T) {
	const round = 1<<32 - 1
	for _, n := range []int{
		round, round + 1, round + 2, round + 70, 2*round + 3, 1<<31*round + 5, 1<<60 + 1, 1 << 61, 1 << 62, math.MaxInt - 1, math.MaxInt,
	} {
		for _, a := range []uint32{1, 0x80000000, 0x12345678} {
			half := n % round / 2
			want := Join(Join(a, 0, half), 7, n%round-half)
			if n == round {
				want = a ^ 7
			}
			if got := Join(a, 7, n); got != want {
				t.Errorf("Join(%x, 7, %d): %x, not %x", a, n, got, want)
			}
		}
	}
}

// TestLeavesArgument: neither the bytes nor their spare room are changed.
func TestLeavesArgument(t *testing.T) {
	table := New()
	for _, used := range []int{0, 1, 5, 24, 28, 32} {
		room := table.Seal(mixed.Bytes(used, 20))
		room = append(room, 0xee, 0xee, 0xee, 0xee, 0xee, 0xee, 0xee, 0xee)
		want := slices.Clone(room)
		table.Sum(room[:used])
		table.More(9, room[:used])
		table.Seal(room[:used])
		table.Open(room[:used])
		if !bytes.Equal(room, want) {
			t.Errorf("%d used: %v, not %v", used, room, want)
		}
	}
}

// TestAnswersApart: what is answered shares nothing with the argument, nor with another answer.
func TestAnswersApart(t *testing.T) {
	table := New()
	data := append(make([]byte, 0, 64), mixed.Bytes(1, 12)...)
	want := binarySeal(data)
	for name, answer := range map[string]func() []byte{
		"Seal": func() []byte { return table.Seal(data) },
		"Open": func() []byte {
			out, _ := table.Open(want)
			return out
		},
	} {
		data, want := slices.Clone(data), slices.Clone(want)
		a, b := answer(), answer()
		kept := slices.Clone(b)
		for i := range a {
			a[i] = 0x55
		}
		a = append(a, 0x55, 0x55)
		if !bytes.Equal(b, kept) {
			t.Errorf("%s: an answer became %v", name, b)
		}
		if c := answer(); !bytes.Equal(c, kept) {
			t.Errorf("%s: the next answer is %v, not %v", name, c, kept)
		}
		if !bytes.Equal(table.Seal(data), want) {
			t.Errorf("%s: the table is another one", name)
		}
	}
}

// TestArgumentGoes: what was answered stays as it is when the argument is changed behind it.
func TestArgumentGoes(t *testing.T) {
	table := New()
	data := mixed.Bytes(8, 12)
	want := slices.Clone(data)
	sealed := table.Seal(data)
	clear(data)
	if !bytes.Equal(sealed, binarySeal(want)) {
		t.Errorf("Seal became %v", sealed)
	}
	opened, e := table.Open(sealed)
	clear(sealed)
	if e != api.OK || !bytes.Equal(opened, want) {
		t.Errorf("Open became %v, %d", opened, e)
	}
}

// TestTablesAreTheSame: what was called on a table, refused calls too, is in no later answer.
func TestTablesAreTheSame(t *testing.T) {
	used := New()
	for i := range 200 {
		used.Open(mixed.Bytes(i, i%9))
		used.More(uint32(i), mixed.Bytes(i, i))
		data := mixed.Bytes(i+1, 40)
		if got, want := used.Sum(data), New().Sum(data); got != want {
			t.Fatalf("behind %d calls: %x, not %x", i, got, want)
		}
	}
	if New() == New() {
		t.Errorf("two tables are one")
	}
}
