package rs

import (
	"bytes"
	"math"
	"slices"
	"testing"

	"backstay/api"
	"backstay/gf"
	"backstay/matrix"
	"backstay/mixed"
	"backstay/poly"
)

// lists: so many, equally long, others for each seed.
func lists(seed, count, length int) [][]byte {
	out := make([][]byte, count)
	for i := range out {
		out[i] = mixed.Bytes(seed*1000+i, length)
	}
	return out
}

// order: the numbers below n, in an order that hangs on the seed.
func order(seed, n int) []int {
	list := make([]int, n)
	for i := range list {
		list[i] = i
	}
	for i, b := range mixed.Bytes(seed, n) {
		k := int(b) % (i + 1)
		list[i], list[k] = list[k], list[i]
	}
	return list
}

// code: one that there is.
func code(t *testing.T, f *gf.Tables, k, m int) *Code {
	t.Helper()
	c, e := New(f, k, m)
	if e != api.OK || c == nil {
		t.Fatalf("New(%d, %d): %d", k, m, e)
	}
	return c
}

// reckoned: all shards of data, as values of one polynomial at each place of the bytes.
func reckoned(f *gf.Tables, m int, data [][]byte) [][]byte {
	all := make([][]byte, len(data)+m)
	for at := range data[0] {
		var points []poly.Point
		for i, d := range data {
			points = append(points, poly.Point{X: byte(i), Y: d[at]})
		}
		p, _ := poly.Through(f, points...)
		for i := range all {
			all[i] = append(all[i], poly.Eval(f, p, byte(i)))
		}
	}
	return all
}

// encoded: all shards of data, as the code makes them, by their numbers.
func encoded(t *testing.T, c *Code, data [][]byte) []api.Shard {
	t.Helper()
	parity, e := c.Encode(data...)
	if e != api.OK || len(parity) != c.Parity() {
		t.Fatalf("Encode, %d and %d: %d shards, %d", c.Data(), c.Parity(), len(parity), e)
	}
	var list []api.Shard
	for i, d := range append(copied(data), parity...) {
		list = append(list, api.Shard{Index: i, Data: d})
	}
	return list
}

// copied: the same lists in memory of their own.
func copied(list [][]byte) [][]byte {
	var out [][]byte
	for _, d := range list {
		out = append(out, slices.Clone(d))
	}
	return out
}

// same: list by list.
func same(a, b [][]byte) bool { return slices.EqualFunc(a, b, bytes.Equal) }

// picked: some shards, in that order.
func picked(list []api.Shard, which ...int) []api.Shard {
	var out []api.Shard
	for _, i := range which {
		out = append(out, list[i])
	}
	return out
}

// changed: a copy in which one shard has one byte changed by so much.
func changed(list []api.Shard, which, at int, by byte) []api.Shard {
	out := slices.Clone(list)
	out[which].Data = slices.Clone(out[which].Data)
	out[which].Data[at] ^= by
	return out
}

// refused: are both calls refused with that error, and nothing besides?
func refused(t *testing.T, c *Code, want api.Errno, list ...api.Shard) {
	t.Helper()
	if got, e := c.Decode(list...); e != want || len(got) != 0 {
		t.Errorf("Decode, %d and %d, of %d: %v, %d, not %d", c.Data(), c.Parity(), len(list), got, e, want)
	}
	if got, e := c.Fits(list...); e != want || got {
		t.Errorf("Fits, %d and %d, of %d: %v, %d, not %d", c.Data(), c.Parity(), len(list), got, e, want)
	}
}

func TestNew(t *testing.T) {
	f := gf.New()
	for _, c := range [][2]int{{1, 0}, {1, 1}, {1, 254}, {2, 0}, {2, 1}, {3, 2}, {16, 16}, {100, 155}, {254, 1}, {254, 0}, {255, 0}, {128, 127}} {
		got := code(t, f, c[0], c[1])
		if got.Data() != c[0] || got.Parity() != c[1] {
			t.Errorf("New(%d, %d): Data %d, Parity %d", c[0], c[1], got.Data(), got.Parity())
		}
	}
	for _, c := range [][2]int{
		{0, 0}, {0, 1}, {0, 255}, {-1, 0}, {-1, 5}, {-5, 300}, {1, -1}, {300, -50}, {255, -1}, {256, -1}, {256, 0}, {255, 1}, {1, 255}, {128, 128}, {100, 156}, {254, 2}, {0, 256}, {257, 0},
		{math.MaxInt, 0}, {math.MaxInt, 1}, {1, math.MaxInt}, {2, math.MaxInt}, {math.MaxInt, math.MaxInt}, {math.MinInt, 0}, {1, math.MinInt}, {math.MinInt, math.MinInt}, {math.MaxInt, math.MinInt}, {math.MinInt, math.MaxInt},
		{1 << 32, 0}, {1, 1 << 32}, {1 + 1<<32, 1 + 1<<32}, {1<<62 + 1, 1 << 62}, {1 << 62, 1 << 62},
	} {
		if got, e := New(f, c[0], c[1]); e != api.ErrShards || got != nil {
			t.Errorf("New(%d, %d): %v, %d", c[0], c[1], got, e)
		}
	}
}

// TestRows: in the row of each shard stands what each data shard of 1 alone gives to it.
func TestRows(t *testing.T) {
	f := gf.New()
	for _, c := range [][2]int{{1, 0}, {1, 1}, {1, 254}, {2, 1}, {2, 3}, {5, 0}, {3, 9}, {16, 16}, {40, 20}, {60, 195}} {
		k, m := c[0], c[1]
		one, _ := matrix.Identity(k)
		var columns [][]byte
		for i := range k {
			columns = append(columns, one.Row(i))
		}
		got := code(t, f, k, m).Rows()
		if want := bytes.Join(reckoned(f, m, columns), nil); got.Rows != k+m || got.Cols != k || !bytes.Equal(got.Data, want) {
			t.Errorf("Rows, %d and %d: %v, not %v", k, m, got, want)
		}
	}
}

// TestRowsMakeAll: applied to the data they make all shards, also of the greatest codes.
func TestRowsMakeAll(t *testing.T) {
	f := gf.New()
	for i, c := range [][2]int{{1, 0}, {2, 1}, {7, 5}, {100, 155}, {254, 1}, {255, 0}} {
		code := code(t, f, c[0], c[1])
		data := lists(i, c[0], 3)
		all, e := matrix.Apply(f, code.Rows(), data...)
		if e != api.OK || !same(all[:c[0]], data) || !same(all, reckoned(f, c[1], data)) {
			t.Errorf("Rows, %d and %d, applied: %d", c[0], c[1], e)
		}
	}
}

func TestEncode(t *testing.T) {
	f := gf.New()
	for _, c := range []struct {
		m          int
		data, want [][]byte
	}{
		{1, [][]byte{{5}, {5}}, [][]byte{{5}}}, {1, [][]byte{{1}, {2}}, [][]byte{{7}}}, {1, [][]byte{{5, 1}, {5, 2}}, [][]byte{{5, 7}}},
		{3, [][]byte{{9, 8}}, [][]byte{{9, 8}, {9, 8}, {9, 8}}}, {2, [][]byte{{0, 0}, {0, 0}, {0, 0}}, [][]byte{{0, 0}, {0, 0}}},
		{0, [][]byte{{1}, {2}}, nil}, {0, [][]byte{{1}}, nil}, {0, [][]byte{{}}, nil}, {2, [][]byte{{}, nil, {}}, [][]byte{nil, nil}},
	} {
		if got, e := code(t, f, len(c.data), c.m).Encode(c.data...); e != api.OK || !same(got, c.want) {
			t.Errorf("Encode(%v): %v, %d, not %v", c.data, got, e, c.want)
		}
	}
	for i, c := range [][3]int{{1, 1, 9}, {2, 2, 9}, {3, 2, 40}, {8, 4, 17}, {16, 16, 50}, {16, 16, 1200}, {1, 254, 1200}, {100, 155, 2}, {254, 1, 3}, {3, 252, 5}, {4, 4, 0}} {
		data := lists(i, c[0], c[2])
		got, e := code(t, f, c[0], c[1]).Encode(data...)
		want := make([][]byte, c[1])
		if c[2] > 0 {
			want = reckoned(f, c[1], data)[c[0]:]
		}
		if e != api.OK || !same(got, want) {
			t.Errorf("Encode, %d and %d, of %d bytes: %d", c[0], c[1], c[2], e)
		}
	}
}

func TestEncodeWrong(t *testing.T) {
	f := gf.New()
	for _, m := range []int{0, 1, 4} {
		c := code(t, f, 3, m)
		for _, w := range []struct {
			data [][]byte
			e    api.Errno
		}{
			{nil, api.ErrShards}, {lists(1, 2, 4), api.ErrShards}, {lists(1, 4, 4), api.ErrShards}, {lists(1, 3+m+1, 4), api.ErrShards}, {lists(1, 300, 1), api.ErrShards},
			{[][]byte{{1}, {2, 3}}, api.ErrShards}, {lists(1, 4, 1201), api.ErrShards}, {[][]byte{nil, {1}, {2}, {3, 4}}, api.ErrShards},
			{[][]byte{{1}, {2}, {3, 4}}, api.ErrLength}, {[][]byte{{1, 2}, {2}, {3, 4}}, api.ErrLength}, {[][]byte{{1}, {3, 4}, {3, 4}}, api.ErrLength}, {[][]byte{{1}, {2}, nil}, api.ErrLength}, {[][]byte{nil, {2}, {3}}, api.ErrLength},
			{lists(1, 3, 1201), api.ErrLength}, {lists(1, 3, 5000), api.ErrLength}, {[][]byte{mixed.Bytes(1, 1200), mixed.Bytes(2, 1201), mixed.Bytes(3, 1200)}, api.ErrLength},
		} {
			if got, e := c.Encode(w.data...); e != w.e || len(got) != 0 {
				t.Errorf("Encode, parity %d, of %d: %v, %d, not %d", m, len(w.data), got, e, w.e)
			}
		}
		if got, e := c.Encode(lists(1, 3, 1200)...); e != api.OK || len(got) != m {
			t.Errorf("Encode of the longest, parity %d: %d", m, e)
		}
	}
}

// TestDecodeAnyFew: of small codes, all choices of shards, each in some orders: k or more are decoded to the data, and fit; fewer are too few.
func TestDecodeAnyFew(t *testing.T) {
	f := gf.New()
	for k := 1; k <= 4; k++ {
		for m := range 5 {
			c := code(t, f, k, m)
			data := lists(k*10+m, k, 3)
			all := encoded(t, c, data)
			for bits := range 1 << (k + m) {
				var which []int
				for _, i := range order(bits, k+m) {
					if bits>>i&1 == 1 {
						which = append(which, i)
					}
				}
				list := picked(all, which...)
				if len(list) < k {
					refused(t, c, api.ErrFew, list...)
					continue
				}
				for range 3 {
					if got, e := c.Decode(list...); e != api.OK || !same(got, data) {
						t.Fatalf("Decode of %v of %d and %d: %v, %d, not %v", which, k, m, got, e, data)
					}
					if got, e := c.Fits(list...); e != api.OK || !got {
						t.Fatalf("Fits of %v of %d and %d: %v, %d", which, k, m, got, e)
					}
					slices.Reverse(list)
					list = append(list[1:], list[0])
				}
			}
		}
	}
}

func TestDecodeGreat(t *testing.T) {
	f := gf.New()
	for i, s := range [][3]int{{16, 16, 1200}, {1, 254, 1200}, {10, 30, 100}, {127, 128, 5}, {50, 205, 7}, {253, 2, 3}, {255, 0, 2}, {4, 4, 0}} {
		k, m := s[0], s[1]
		c := code(t, f, k, m)
		data := lists(i, k, s[2])
		all := encoded(t, c, data)
		for _, count := range []int{k, k + m/2, k + m} {
			list := picked(all, order(i+count, k+m)[:count]...)
			if got, e := c.Decode(list...); e != api.OK || !same(got, data) {
				t.Errorf("Decode of %d, of %d and %d, of %d bytes: %d", count, k, m, s[2], e)
			}
			if got, e := c.Fits(list...); e != api.OK || !got {
				t.Errorf("Fits of %d, of %d and %d, of %d bytes: %v, %d", count, k, m, s[2], got, e)
			}
			refused(t, c, api.ErrFew, list[:k-1]...)
		}
	}
}

func TestListWrong(t *testing.T) {
	f := gf.New()
	for _, m := range []int{0, 1, 3} {
		c := code(t, f, 3, m)
		good := encoded(t, c, lists(m, 3, 4))
		of := func(index, length int) api.Shard { return api.Shard{Index: index, Data: mixed.Bytes(index, length)} }
		for _, i := range []int{-1, -2, 3 + m, 4 + m, 255, 256, 1 << 32, 1<<32 + 1, math.MaxInt, math.MinInt} {
			for _, length := range []int{0, 4, 9, 1201} {
				refused(t, c, api.ErrIndex, of(i, length))
				refused(t, c, api.ErrIndex, append(slices.Clone(good), of(i, length))...)
				refused(t, c, api.ErrIndex, append([]api.Shard{of(i, length)}, good...)...)
			}
		}
		for i := range 3 + m {
			refused(t, c, api.ErrIndex, good[i], good[i])
			refused(t, c, api.ErrIndex, of(i, 1), of(i, 1201))
			refused(t, c, api.ErrIndex, append(slices.Clone(good), good[i])...)
			refused(t, c, api.ErrIndex, append([]api.Shard{of(i, 9)}, good...)...)
		}
		refused(t, c, api.ErrIndex, slices.Repeat(good, 100)...)
		refused(t, c, api.ErrFew)
		refused(t, c, api.ErrFew, of(0, 4))
		refused(t, c, api.ErrFew, of(2, 4), of(0, 9))
		refused(t, c, api.ErrFew, of(1, 5000), of(0, 1201))
		refused(t, c, api.ErrLength, of(0, 1201), of(1, 1201), of(2, 1201))
		for i := range 3 + m {
			for _, length := range []int{0, 3, 5, 1201} {
				list := slices.Clone(good)
				list[i] = of(i, length)
				refused(t, c, api.ErrLength, list...)
				slices.Reverse(list)
				refused(t, c, api.ErrLength, list...)
			}
		}
	}
}

// TestLeastNumbers: the data are those of the k shards of the least numbers, wherever these stand in the list, whatever the others are.
func TestLeastNumbers(t *testing.T) {
	f := gf.New()
	c := code(t, f, 3, 4)
	data, other := lists(1, 3, 5), lists(2, 3, 5)
	ours, theirs := encoded(t, c, data), encoded(t, c, other)
	for _, s := range [][]int{{0, 1, 2, 3}, {0, 1, 2, 6, 5}, {1, 2, 4, 5}, {0, 4, 5, 6}, {3, 4, 5, 6}, {0, 1, 2, 3, 4, 5, 6}, {1, 3, 5, 6}} {
		list := append(picked(ours, s[:3]...), picked(theirs, s[3:]...)...)
		for i := range 24 {
			var mix []api.Shard
			for _, at := range order(i, len(list)) {
				mix = append(mix, list[at])
			}
			if got, e := c.Decode(mix...); e != api.OK || !same(got, data) {
				t.Fatalf("Decode of %v, and %v of others: %v, %d, not %v", s[:3], s[3:], got, e, data)
			}
			if got, e := c.Fits(mix...); e != api.OK || got {
				t.Fatalf("Fits of %v, and %v of others: %v, %d", s[:3], s[3:], got, e)
			}
		}
	}
}

// TestFits: any k shards are of one code word; of more none may have one byte changed, whichever it is.
func TestFits(t *testing.T) {
	f := gf.New()
	for _, s := range [][2]int{{1, 1}, {1, 3}, {2, 1}, {3, 2}, {4, 4}} {
		k, m := s[0], s[1]
		c := code(t, f, k, m)
		all := encoded(t, c, lists(k, k, 4))
		for which := range all {
			for at := range 4 {
				for _, by := range []byte{1, 2, 64, 128, 255} {
					list := changed(all, which, at, by)
					if got, e := c.Fits(list...); e != api.OK || got {
						t.Fatalf("Fits, %d and %d, of one with shard %d changed at %d: %v, %d", k, m, which, at, got, e)
					}
					slices.Reverse(list)
					if got, e := c.Fits(list...); e != api.OK || got {
						t.Fatalf("Fits, %d and %d, of one with shard %d changed at %d, turned round: %v, %d", k, m, which, at, got, e)
					}
				}
			}
		}
		for seed := range 20 {
			var list []api.Shard
			for i, n := range order(seed, k+m)[:k] {
				list = append(list, api.Shard{Index: n, Data: mixed.Bytes(seed*100+i, 6)})
			}
			if got, e := c.Fits(list...); e != api.OK || !got {
				t.Fatalf("Fits, %d and %d, of any %d: %v, %d", k, m, k, got, e)
			}
			data, e := c.Decode(list...)
			if e != api.OK || len(data) != k {
				t.Fatalf("Decode, %d and %d, of any %d: %v, %d", k, m, k, data, e)
			}
			whole := reckoned(f, m, data)
			for _, shard := range list {
				if !bytes.Equal(whole[shard.Index], shard.Data) {
					t.Fatalf("Decode, %d and %d: %v isn't of the shard %v", k, m, data, shard)
				}
			}
		}
	}
}

// wide: a copy with spare room, all of a byte that is told.
func wide(list []byte, spare byte) []byte {
	out := append(slices.Clone(list), bytes.Repeat([]byte{spare}, 40)...)
	return out[:len(list)]
}

func TestLeavesArguments(t *testing.T) {
	f := gf.New()
	c := code(t, f, 3, 2)
	data := lists(1, 3, 8)
	all := encoded(t, c, data)
	given := make([][]byte, 3, 8)
	for i, d := range data {
		given[i] = wide(d, 77)
	}
	c.Encode(given...)
	list := make([]api.Shard, 4, 9)
	for i, n := range []int{4, 2, 3, 0} {
		list[i] = api.Shard{Index: n, Data: wide(all[n].Data, 77)}
	}
	c.Decode(list...)
	c.Fits(list...)
	c.Decode(append(list, list[0])...)
	c.Fits(append(list, list[0])...)
	for i, d := range given {
		if want := append(slices.Clone(data[i]), bytes.Repeat([]byte{77}, 40)...); !bytes.Equal(d[:48], want) {
			t.Errorf("Encode changed %v", d[:48])
		}
	}
	for i, n := range []int{4, 2, 3, 0} {
		s := list[i]
		if want := append(slices.Clone(all[n].Data), bytes.Repeat([]byte{77}, 40)...); s.Index != n || !bytes.Equal(s.Data[:48], want) {
			t.Errorf("Decode, Fits changed %v", s)
		}
	}
	for _, d := range given[:8][3:] {
		if d != nil {
			t.Errorf("Encode changed the spare room")
		}
	}
	for _, s := range list[:9][5:] {
		if s.Data != nil || s.Index != 0 {
			t.Errorf("Decode, Fits changed the spare room")
		}
	}
}

// spoil: overwrites lists and all that grows out of them.
func spoil(list [][]byte) {
	for _, d := range list {
		clear(append(d, 1, 2, 3)[:cap(d)])
		clear(d[:cap(d)])
	}
}

func TestAnswersApart(t *testing.T) {
	f := gf.New()
	c := code(t, f, 3, 3)
	data := lists(4, 3, 6)
	first, _ := c.Encode(data...)
	want := copied(first)
	for i := range first {
		for k := range first[i] {
			first[i][k] ^= 255
		}
		first[i] = append(first[i], 9)
		if !same(first[i+1:], want[i+1:]) {
			t.Errorf("parity shards share memory")
		}
	}
	spoil(first)
	second, _ := c.Encode(data...)
	if !same(second, want) {
		t.Errorf("Encode: %v, not %v as it was", second, want)
	}
	all := encoded(t, c, data)
	for _, list := range [][]api.Shard{all, all[:3], picked(all, 5, 1, 4), all[3:]} {
		got, _ := c.Decode(list...)
		for i := range got {
			got[i] = append(got[i], 9)
			if !same(got[i+1:], data[i+1:]) {
				t.Errorf("data share memory")
			}
		}
		spoil(got)
		if again, e := c.Decode(list...); e != api.OK || !same(again, data) {
			t.Errorf("Decode: %v, %d, not %v as it was", again, e, data)
		}
	}
	if !same(lists(4, 3, 6), data) {
		t.Errorf("data were changed by answers")
	}
	rows := c.Rows()
	clear(rows.Data)
	if again := c.Rows(); bytes.Equal(again.Data, rows.Data) {
		t.Errorf("Rows isn't a copy")
	}
	if again, _ := c.Encode(data...); !same(again, want) {
		t.Errorf("Encode: %v, not %v as it was", again, want)
	}
}

// TestKeepsNothing: a call's answer hangs on its arguments alone, not on calls ahead of it, refused or not; a code stands beside others over the same field.
func TestKeepsNothing(t *testing.T) {
	f := gf.New()
	c := code(t, f, 3, 2)
	data := lists(7, 3, 5)
	before := encoded(t, c, data)
	rows := c.Rows()
	New(f, 0, 9)
	other := code(t, f, 5, 4)
	encoded(t, other, lists(8, 5, 9))
	encoded(t, c, lists(9, 3, 700))
	c.Encode(data[:2]...)
	c.Decode(before[0])
	c.Decode(before[0], before[0])
	c.Decode(before[0], before[1], api.Shard{Index: 4, Data: []byte{1}})
	c.Fits(changed(before, 4, 2, 1)...)
	if after := encoded(t, c, data); !slices.EqualFunc(before, after, func(a, b api.Shard) bool { return a.Index == b.Index && bytes.Equal(a.Data, b.Data) }) {
		t.Errorf("Encode: %v, not %v as it was", after, before)
	}
	if again := c.Rows(); !bytes.Equal(again.Data, rows.Data) || c.Data() != 3 || c.Parity() != 2 {
		t.Errorf("Rows, Data, Parity: %v, %d, %d", again, c.Data(), c.Parity())
	}
	if got, e := c.Decode(picked(before, 4, 3, 1)...); e != api.OK || !same(got, data) {
		t.Errorf("Decode: %v, %d, not %v", got, e, data)
	}
}
