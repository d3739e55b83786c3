package wire

import (
	"bytes"
	"encoding/binary"
	"hash/crc32"
	"math"
	"slices"
	"testing"

	"backstay/api"
	"backstay/crc"
	"backstay/mixed"
)

// raw is a datagram's bytes, part by part, whether or not they may be.
type raw struct {
	Magic                    uint16
	Kind, Path               byte
	Session, Seq, Tick, A, B uint32
	K, M, Index              byte
	Size                     uint16
}

// sealed: the bytes, with the library's sum behind them, the lowest byte first.
func sealed(parts ...any) []byte {
	var out []byte
	for _, p := range parts {
		out, _ = binary.Append(out, binary.BigEndian, p)
	}
	return binary.LittleEndian.AppendUint32(out, crc32.ChecksumIEEE(out))
}

// laid: a datagram's bytes as the document lays them; numbers that don't fit go round.
func laid(d api.Datagram) []byte {
	return sealed(raw{0x426b, byte(d.Kind), byte(d.Path), d.Session, d.Seq, d.Tick, d.A, d.B, byte(d.K), byte(d.M), byte(d.Index), uint16(len(d.Data))}, d.Data)
}

// same: are two datagrams the same, whether or not empty data are nil?
func same(a, b api.Datagram) bool {
	return a.Kind == b.Kind && a.Session == b.Session && a.Seq == b.Seq && a.Path == b.Path && a.Tick == b.Tick &&
		a.A == b.A && a.B == b.B && a.K == b.K && a.M == b.M && a.Index == b.Index && bytes.Equal(a.Data, b.Data)
}

// allowed is what a kind may have: between which limits a number is, and which data.
type allowed struct {
	a, b, code bool
	least      func(k int) int
	most       func(k, m int) int
	data       func(data []byte) bool
}

// kinds: what each may have, as the document lists it.
func kinds() map[int]allowed {
	empty := func(data []byte) bool { return len(data) == 0 }
	shard := func(data []byte) bool { return len(data) > 0 && len(data) < 1201 }
	return map[int]allowed{
		1: {a: true, b: true, data: empty},
		2: {a: true, b: true, code: true, least: func(k int) int { return 0 }, most: func(k, m int) int { return k - 1 }, data: shard},
		3: {a: true, b: true, code: true, least: func(k int) int { return k }, most: func(k, m int) int { return k + m - 1 }, data: shard},
		4: {a: true, data: func(data []byte) bool {
			kept := bytes.Clone(data)
			slices.Sort(kept)
			return len(data) > 0 && bytes.Equal(slices.Compact(kept), data) && data[len(data)-1] < 32
		}},
		5: {a: true, b: true, data: func(data []byte) bool { return len(data) == 4 }},
		6: {a: true, b: true, data: empty},
		7: {data: empty},
		8: {a: true, data: empty},
	}
}

// judged: what Check should tell, by the list of kinds.
func judged(kinds map[int]allowed, d api.Datagram) api.Errno {
	w, ok := kinds[d.Kind]
	if !ok {
		return api.ErrKind
	}
	fine := (d.Path == 0 || d.Path == 1) && (w.a || d.A == 0) && (w.b || d.B == 0) && w.data(d.Data)
	if w.code {
		fine = fine && 1 <= d.K && d.K <= 16 && 0 <= d.M && d.M <= 16 && w.least(d.K) <= d.Index && d.Index <= w.most(d.K, d.M)
	} else {
		fine = fine && d.K == 0 && d.M == 0 && d.Index == 0
	}
	if !fine {
		return api.ErrForm
	}
	return api.OK
}

// numbers: so many, from 0 on.
func numbers(count int) []byte {
	list := make([]byte, count)
	for i := range list {
		list[i] = byte(i)
	}
	return list
}

// good: one or more of each kind that may be, at the edges of what they may have.
func good() []api.Datagram {
	const most = math.MaxUint32
	return []api.Datagram{
		{Kind: 1}, {Kind: 1, A: 1, B: 2}, {Kind: 1, Session: most, Seq: most, Path: 1, Tick: most, A: most, B: most},
		{Kind: 2, K: 1, Data: []byte{0}}, {Kind: 2, Session: 7, Seq: 9, Path: 1, A: 3, B: 12, K: 4, M: 2, Index: 1, Data: []byte{5, 6}},
		{Kind: 2, A: most, B: most, K: 16, M: 16, Index: 15, Data: mixed.Bytes(1, 1200)}, {Kind: 2, K: 16, Index: 0, Data: mixed.Bytes(2, 1199)},
		{Kind: 3, K: 1, M: 1, Index: 1, Data: []byte{9}}, {Kind: 3, Session: 1, A: 1 << 31, B: 5, K: 16, M: 16, Index: 31, Data: mixed.Bytes(3, 1200)},
		{Kind: 3, K: 16, M: 16, Index: 16, Data: mixed.Bytes(4, 255)}, {Kind: 3, K: 2, M: 3, Index: 4, Data: mixed.Bytes(5, 256)},
		{Kind: 4, Data: []byte{0}}, {Kind: 4, A: most, Data: []byte{31}}, {Kind: 4, A: 8, Data: []byte{0, 7, 8, 30}}, {Kind: 4, A: 8, Path: 1, Data: numbers(32)},
		{Kind: 5, Data: []byte{0, 0, 0, 0}}, {Kind: 5, Seq: 3, A: most, B: most, Data: []byte{255, 255, 255, 255}}, {Kind: 5, Tick: 1 << 24, A: 20, B: 1 << 16, Data: []byte{4, 3, 2, 1}},
		{Kind: 6}, {Kind: 6, Tick: 77, A: 16, B: 0xdeadbeef}, {Kind: 6, B: 1},
		{Kind: 7}, {Kind: 7, Session: 0x01020304, Seq: 0x05060708, Path: 1, Tick: 0x090a0b0c},
		{Kind: 8}, {Kind: 8, A: 1}, {Kind: 8, Path: 1, A: most},
	}
}

// refused: do Check and Encode tell that error, and nothing besides? So does Decode, where the bytes tell the same datagram.
func refused(t *testing.T, c *crc.Table, d api.Datagram, want api.Errno) {
	t.Helper()
	if e := Check(d); e != want {
		t.Errorf("Check(%+v): %d, not %d", d, e, want)
	}
	if b, e := Encode(c, d); e != want || len(b) != 0 {
		t.Errorf("Encode(%+v): %v, %d, not %d", d, b, e, want)
	}
	for _, n := range []int{d.Kind, d.Path, d.K, d.M, d.Index} {
		if n != int(byte(n)) {
			return
		}
	}
	if len(d.Data) <= 1400-33 {
		undecoded(t, c, d.Session, laid(d), want)
	}
}

// undecoded: does Decode tell that error, and nothing besides?
func undecoded(t *testing.T, c *crc.Table, session uint32, data []byte, want api.Errno) {
	t.Helper()
	if got, e := Decode(c, session, data); e != want || !same(got, api.Datagram{}) {
		t.Errorf("Decode of %v: %+v, %d, not %d", data, got, e, want)
	}
}

func TestNumbers(t *testing.T) {
	if Magic != 0x426b || HeadSize != 29 || AckSize != 4 {
		t.Errorf("Magic %x, HeadSize %d, AckSize %d", Magic, HeadSize, AckSize)
	}
}

func TestEncode(t *testing.T) {
	c := crc.New()
	for _, w := range []struct {
		d    api.Datagram
		want []byte
	}{
		{api.Datagram{Kind: 7}, []byte{0x42, 0x6b, 7, 28: 0}},
		{api.Datagram{Kind: 7, Session: 0x01020304, Seq: 0x05060708, Path: 1, Tick: 0x090a0b0c}, []byte{0x42, 0x6b, 7, 1, 1, 2, 3, 4, 5, 6, 7, 8, 9, 10, 11, 12, 28: 0}},
		{api.Datagram{Kind: 6, A: 0x11121314, B: 0x21222324}, []byte{0x42, 0x6b, 6, 16: 0x11, 0x12, 0x13, 0x14, 0x21, 0x22, 0x23, 0x24, 28: 0}},
		{api.Datagram{Kind: 3, Session: 1, A: 2, B: 3, K: 4, M: 5, Index: 6, Data: []byte{90, 91}}, []byte{0x42, 0x6b, 3, 7: 1, 19: 2, 23: 3, 4, 5, 6, 0, 2, 90, 91}},
		{api.Datagram{Kind: 4, A: 9, Data: []byte{0, 31}}, []byte{0x42, 0x6b, 4, 19: 9, 28: 2, 0, 31}},
	} {
		got, e := Encode(c, w.d)
		if e != api.OK || !bytes.Equal(got, sealed(w.want)) {
			t.Errorf("Encode(%+v): %v, %d, not %v", w.d, got, e, sealed(w.want))
		}
	}
	long := api.Datagram{Kind: 2, K: 1, Data: mixed.Bytes(1, 1200)}
	if got, e := Encode(c, long); e != api.OK || len(got) != 1233 || got[27] != 0x04 || got[28] != 0xb0 {
		t.Errorf("Encode of the longest: %d bytes, %d", len(got), e)
	}
}

// TestDecodeOfEncode: P7.4, and what P7.1 tells of those that may be.
func TestDecodeOfEncode(t *testing.T) {
	c := crc.New()
	for _, d := range good() {
		if e := Check(d); e != api.OK {
			t.Errorf("Check(%+v): %d", d, e)
		}
		b, e := Encode(c, d)
		if e != api.OK || !bytes.Equal(b, laid(d)) {
			t.Errorf("Encode(%+v): %v, %d, not %v", d, b, e, laid(d))
		}
		if got, want := Size(d), len(laid(d)); got != want {
			t.Errorf("Size(%+v): %d, not %d", d, got, want)
		}
		if got, e := Decode(c, d.Session, b); e != api.OK || !same(got, d) {
			t.Errorf("Decode of %+v: %+v, %d", d, got, e)
		}
	}
	for seed := range 200 {
		w := mixed.Bytes(seed, 40)
		n := func(at int) uint32 { return binary.LittleEndian.Uint32(w[at:]) }
		k, m := 1+int(w[20]%16), 1+int(w[21]%16)
		d := api.Datagram{Kind: 2, Session: n(0), Seq: n(4), Path: int(w[22] % 2), Tick: n(8), A: n(12), B: n(16), K: k, M: m, Index: int(w[23]) % k, Data: mixed.Bytes(-seed, 1+6*seed)}
		if seed%2 == 1 {
			d.Kind, d.Index = 3, k+int(w[24])%m
		}
		b, e := Encode(c, d)
		if e != api.OK || !bytes.Equal(b, laid(d)) || Size(d) != len(b) {
			t.Fatalf("Encode(%+v): %v, %d", d, b, e)
		}
		if got, e := Decode(c, d.Session, b); e != api.OK || !same(got, d) {
			t.Fatalf("Decode of %+v: %+v, %d", d, got, e)
		}
	}
}

// TestAllForms: all kinds with numbers in and out of their limits, and data of all sorts, against the list of kinds.
func TestAllForms(t *testing.T) {
	c := crc.New()
	list := kinds()
	data := [][]byte{nil, {}, {0}, {31}, {32}, {1, 0}, {5, 5}, {0, 1, 31}, {1, 2, 3, 4}, {1, 2, 3, 32}, {9, 8, 7, 6}, {0, 0, 0, 0, 0}, numbers(32), numbers(33)}
	codes := [][3]int{{0, 0, 0}}
	for _, k := range []int{-1, 0, 1, 2, 16, 17} {
		for _, m := range []int{-1, 0, 1, 2, 16, 17} {
			for _, index := range []int{-1, 0, 1, k - 1, k, k + 1, k + m - 1, k + m} {
				codes = append(codes, [3]int{k, m, index})
			}
		}
	}
	for kind := -1; kind <= 10; kind++ {
		for path := -1; path <= 2; path++ {
			for _, code := range codes {
				for at, bytes := range data {
					for ab := range uint32(4) {
						d := api.Datagram{Kind: kind, Session: 3, Path: path, A: ab & 1, B: ab & 2, K: code[0], M: code[1], Index: code[2], Data: bytes}
						want := judged(list, d)
						if got := Check(d); got != want {
							t.Fatalf("Check(%+v): %d, not %d", d, got, want)
						}
						if at%3 > 0 || ab > 1 { // the sums of them all would take long
							continue
						}
						if want != api.OK {
							refused(t, c, d, want)
						} else if got, e := Decode(c, 3, laid(d)); e != api.OK || !same(got, d) {
							t.Fatalf("Decode of %+v: %+v, %d", d, got, e)
						}
					}
				}
			}
		}
	}
}

// TestOutOfForm: of each that may be, each part put out of its limits alone.
func TestOutOfForm(t *testing.T) {
	c := crc.New()
	list := kinds()
	wide := []int{-1, 2, 3, 17, 32, 33, 255, 256, 257, 1 << 16, 1 << 32, 1<<32 + 1, 1<<32 + 16, math.MaxInt, math.MaxInt - 1, math.MinInt, math.MinInt + 1}
	for _, d := range good() {
		for _, n := range wide {
			for part := range 5 {
				x := d
				*[]*int{&x.Kind, &x.Path, &x.K, &x.M, &x.Index}[part] = n
				if want := judged(list, x); want != api.OK {
					refused(t, c, x, want)
				} else if e := Check(x); e != api.OK {
					t.Errorf("Check(%+v): %d", x, e)
				}
			}
		}
		for _, length := range []int{0, 1, 2, 3, 4, 5, 33, 1200, 1201, 1400, 1 << 16, 1<<16 + 1, 1<<16 + 4} {
			x := d
			x.Data = mixed.Bytes(length, length)
			if want := judged(list, x); want != api.OK {
				refused(t, c, x, want)
			}
		}
	}
}

// TestKindIsFirst: a kind that there is not is told ahead of all that is wrong besides.
func TestKindIsFirst(t *testing.T) {
	c := crc.New()
	for _, kind := range []int{-1, 0, 9, 10, 255, 256, 257, 1<<32 + 1, math.MaxInt, math.MinInt} {
		refused(t, c, api.Datagram{Kind: kind}, api.ErrKind)
		refused(t, c, api.Datagram{Kind: kind, Path: 2, A: 1, B: 1, K: 17, M: 17, Index: 40, Data: []byte{200, 1}}, api.ErrKind)
	}
}

// TestDecodeOrder: each error of Decode, beside all those that are named behind it.
func TestDecodeOrder(t *testing.T) {
	c := crc.New()
	bad := raw{Magic: 0x426c, Kind: 9, Path: 2, Session: 6, Size: 1}
	for _, n := range []int{1401, 1402, 2000, 1 << 16} {
		undecoded(t, c, 5, make([]byte, n), api.ErrLong)
		undecoded(t, c, 5, sealed(mixed.Bytes(n, n-4)), api.ErrLong)
	}
	whole := raw{Magic: 0x426b, Kind: 2, Session: 5, K: 1, Size: 1401 - 33}
	undecoded(t, c, 5, sealed(whole, mixed.Bytes(1, 1401-33)), api.ErrLong)
	undecoded(t, c, 5, nil, api.ErrShort)
	for n := range 33 {
		undecoded(t, c, 5, make([]byte, n), api.ErrShort)
		if n >= 4 {
			undecoded(t, c, 5, sealed(mixed.Bytes(n, n-4)), api.ErrShort)
		}
	}
	for _, n := range []int{33, 34, 1400} {
		undecoded(t, c, 5, mixed.Bytes(n, n), api.ErrSum)
		undecoded(t, c, 5, sealed(mixed.Bytes(n, n-4)), api.ErrMagic)
	}
	turned := sealed(bad)
	turned[32] ^= 1
	undecoded(t, c, 5, turned, api.ErrSum)
	undecoded(t, c, 5, sealed(bad), api.ErrMagic)
	bad.Session = 5
	undecoded(t, c, 5, sealed(bad), api.ErrMagic)
	bad.Magic, bad.Session = 0x426b, 6
	undecoded(t, c, 5, sealed(bad), api.ErrMagic)
	bad.Session = 5
	undecoded(t, c, 5, sealed(bad), api.ErrForm)
	bad.Size = 0
	undecoded(t, c, 5, sealed(bad), api.ErrKind)
	bad.Kind = 7
	undecoded(t, c, 5, sealed(bad), api.ErrForm)
	bad.Path = 1
	if got, e := Decode(c, 5, sealed(bad)); e != api.OK || !same(got, api.Datagram{Kind: 7, Session: 5, Path: 1}) {
		t.Errorf("Decode: %+v, %d", got, e)
	}
	// Of 1400 bytes none is a datagram, but for that they aren't too long.
	whole.Size--
	undecoded(t, c, 5, sealed(whole, mixed.Bytes(1, 1400-33)), api.ErrForm)
}

// TestMagic: each bit of what bytes begin with, and of the session.
func TestMagic(t *testing.T) {
	c := crc.New()
	d := api.Datagram{Kind: 6, Session: 0x89abcdef, A: 1, B: 2}
	for bit := range 16 {
		undecoded(t, c, d.Session, sealed(raw{Magic: 0x426b ^ 1<<bit, Kind: 6, Session: d.Session, A: 1, B: 2}), api.ErrMagic)
	}
	undecoded(t, c, d.Session, sealed(raw{Magic: 0x6b42, Kind: 6, Session: d.Session, A: 1, B: 2}), api.ErrMagic)
	for bit := range 32 {
		undecoded(t, c, d.Session^1<<bit, laid(d), api.ErrMagic)
	}
	undecoded(t, c, 0, laid(d), api.ErrMagic)
	undecoded(t, c, 0xefcdab89, laid(d), api.ErrMagic)
}

// TestDataAsTold: there are neither fewer nor more bytes of data than are told.
func TestDataAsTold(t *testing.T) {
	c := crc.New()
	for _, there := range []int{0, 1, 2, 4, 255, 256, 257, 1200} {
		for _, told := range []int{0, 1, 2, 3, 4, 5, 254, 255, 256, 257, 258, 512, 1199, 1200, 1201, 0xb004, 1<<16 - 1} {
			parts := raw{Magic: 0x426b, Kind: 2, Session: 5, K: 2, M: 1, Index: 1, Size: uint16(told)}
			data := sealed(parts, mixed.Bytes(there, there))
			if there != told || there == 0 {
				undecoded(t, c, 5, data, api.ErrForm)
			} else if got, e := Decode(c, 5, data); e != api.OK || len(got.Data) != there {
				t.Errorf("Decode of %d bytes of data: %+v, %d", there, got, e)
			}
		}
	}
}

// TestDecodeOfTurned: P7.5, at each place of each that may be, the longest ones at some places.
func TestDecodeOfTurned(t *testing.T) {
	c := crc.New()
	for at, d := range good() {
		b := laid(d)
		bits := 8 * len(b)
		for from := 0; from < bits; from += 1 + bits/700 {
			for _, pattern := range []uint32{1, 3, 1<<31 + 1, math.MaxUint32, binary.LittleEndian.Uint32(mixed.Bytes(at+from, 4)) | 1} {
				x := bytes.Clone(b)
				for i := range min(32, bits-from) {
					x[(from+i)/8] ^= byte(pattern>>i&1) << ((from + i) % 8)
				}
				if got, e := Decode(c, d.Session, x); e == api.OK || !same(got, api.Datagram{}) {
					t.Fatalf("Decode of %+v, bits %x turned at %d: %+v, %d", d, pattern, from, got, e)
				}
			}
		}
	}
}

// TestDecodeOfAny: whatever bytes come, what is decoded may be, and has these bytes.
func TestDecodeOfAny(t *testing.T) {
	c := crc.New()
	var some int
	for seed := range 30000 {
		w := mixed.Bytes(seed, 8)
		parts := raw{Magic: 0x426b, Kind: w[0] % 10, Path: w[1] % 3, Session: 5, A: uint32(w[2] % 2), B: uint32(w[3] % 2), K: w[4] % 4, M: w[5] % 4, Index: w[6] % 4, Size: uint16(w[7] % 6)}
		if parts.Kind < 2 || parts.Kind > 3 {
			parts.K, parts.M, parts.Index = parts.K/3, parts.M/3, parts.Index/3
		}
		data := sealed(parts, numbers(seed%6))
		d, e := Decode(c, 5, data)
		if e != api.OK {
			if e != api.ErrForm && e != api.ErrKind || !same(d, api.Datagram{}) {
				t.Fatalf("Decode of %v: %+v, %d", data, d, e)
			}
			continue
		}
		some++
		if b, e := Encode(c, d); e != api.OK || !bytes.Equal(b, data) {
			t.Fatalf("Encode of what %v tells: %v, %d", data, b, e)
		}
	}
	if some < 100 {
		t.Errorf("%d are decoded", some)
	}
}

func TestQualityBytes(t *testing.T) {
	for _, w := range []struct {
		q    Quality
		want []byte
	}{
		{Quality{}, []byte{0, 0, 0, 0}}, {Quality{1, 2}, []byte{0, 1, 0, 2}}, {Quality{0x1234, 0x5678}, []byte{0x12, 0x34, 0x56, 0x78}},
		{Quality{-1, -1}, []byte{255, 255, 0, 0}}, {Quality{-2, 1}, []byte{255, 254, 0, 1}}, {Quality{-256, 256}, []byte{255, 0, 1, 0}},
		{Quality{32767, 65535}, []byte{127, 255, 255, 255}}, {Quality{32768, 65536}, []byte{127, 255, 255, 255}}, {Quality{65535, 65537}, []byte{127, 255, 255, 255}},
		{Quality{65536, 1 << 17}, []byte{127, 255, 255, 255}}, {Quality{1 << 32, 1 << 32}, []byte{127, 255, 255, 255}}, {Quality{math.MaxInt, math.MaxInt}, []byte{127, 255, 255, 255}},
		{Quality{32766, 65534}, []byte{127, 254, 255, 254}}, {Quality{-32767, 32768}, []byte{128, 1, 128, 0}}, {Quality{-32768, 32767}, []byte{128, 0, 127, 255}},
		{Quality{-32769, -32768}, []byte{128, 0, 0, 0}}, {Quality{-65536, -65536}, []byte{128, 0, 0, 0}}, {Quality{-1 << 32, -1 << 32}, []byte{128, 0, 0, 0}}, {Quality{math.MinInt, math.MinInt}, []byte{128, 0, 0, 0}},
	} {
		if got := w.q.Bytes(); !bytes.Equal(got, w.want) {
			t.Errorf("Bytes of %+v: %v, not %v", w.q, got, w.want)
		}
	}
}

func TestTold(t *testing.T) {
	for _, w := range []struct {
		data []byte
		want Quality
	}{
		{[]byte{0, 1, 0, 2}, Quality{1, 2}}, {[]byte{0x12, 0x34, 0x56, 0x78}, Quality{0x1234, 0x5678}}, {[]byte{255, 255, 255, 255}, Quality{-1, 65535}},
		{[]byte{128, 0, 128, 0}, Quality{-32768, 32768}}, {[]byte{127, 255, 127, 255}, Quality{32767, 32767}}, {[]byte{0, 0, 0, 0}, Quality{}},
		{nil, Quality{}}, {[]byte{}, Quality{}}, {[]byte{1}, Quality{}}, {[]byte{1, 2}, Quality{}}, {[]byte{1, 2, 3}, Quality{}}, {[]byte{1, 2, 3, 4, 5}, Quality{}}, {mixed.Bytes(1, 8), Quality{}}, {mixed.Bytes(1, 2000), Quality{}},
	} {
		if got := Told(w.data); got != w.want {
			t.Errorf("Told(%v): %+v, not %+v", w.data, got, w.want)
		}
	}
	for ahead := math.MinInt16; ahead <= math.MaxInt16; ahead += 7 {
		q := Quality{ahead, 65535 - 2*(ahead+32768)&0xffff}
		if got := Told(q.Bytes()); got != q {
			t.Fatalf("Told of %+v: %+v", q, got)
		}
		if e := Check(api.Datagram{Kind: 5, Data: q.Bytes()}); e != api.OK {
			t.Fatalf("an ack can't tell %+v: %d", q, e)
		}
	}
}

// TestLeavesArguments: what is handed in is the same behind the calls, its spare room too.
func TestLeavesArguments(t *testing.T) {
	c := crc.New()
	for _, d := range good() {
		room := bytes.Repeat([]byte{77}, len(d.Data)+50)
		copy(room, d.Data)
		kept := bytes.Clone(room)
		d.Data = room[:len(d.Data)]
		Check(d)
		Encode(c, d)
		Size(d)
		Told(d.Data)
		if !bytes.Equal(room, kept) {
			t.Errorf("the calls changed the data of %+v", d)
		}
		b := append(laid(d), bytes.Repeat([]byte{77}, 50)...)
		kept = bytes.Clone(b)
		Decode(c, d.Session, b[:len(b)-50])
		Decode(c, d.Session+1, b[:len(b)-50])
		Decode(c, d.Session, b)
		if !bytes.Equal(b, kept) {
			t.Errorf("Decode changed the bytes of %+v", d)
		}
	}
}

// TestAnswersApart: what is answered stays as it is, whatever is done to arguments and to other answers, and spoils no later call.
func TestAnswersApart(t *testing.T) {
	c := crc.New()
	for _, d := range good() {
		want := laid(d)
		given := d
		given.Data = bytes.Clone(d.Data)
		first, _ := Encode(c, given)
		second, _ := Encode(c, given)
		clear(given.Data)
		clear(first[:cap(first)])
		if !bytes.Equal(second, want) {
			t.Errorf("Encode of %+v shares memory", d)
		}
		one, _ := Decode(c, d.Session, second)
		two, _ := Decode(c, d.Session, second)
		clear(second)
		clear(append(one.Data, 1)[:cap(one.Data)])
		clear(one.Data)
		if !same(two, d) {
			t.Errorf("Decode of %+v shares memory", d)
		}
		if again, e := Decode(c, d.Session, want); e != api.OK || !same(again, d) {
			t.Errorf("Decode of %+v again: %+v, %d", d, again, e)
		}
	}
	q := Quality{-3, 70}
	one, two := q.Bytes(), q.Bytes()
	clear(one[:cap(one)])
	if !bytes.Equal(two, []byte{255, 253, 0, 70}) || !bytes.Equal(q.Bytes(), two) {
		t.Errorf("Bytes of %+v share memory: %v", q, two)
	}
}
