package reasm

import (
	"bytes"
	"math"
	"slices"
	"testing"

	"backstay/api"
	"backstay/mixed"
)

// Numbers that are edges of something: of kinds, of counts, of shards' numbers, of int.
var edges = []int{
	math.MinInt, math.MinInt + 1, -1 << 32, -65536, -17, -16, -2, -1, 0, 1, 2, 3, 4, 15, 16, 17, 18, 31, 32, 33, 34, 255, 256, 257, 258,
	65535, 65536, 1<<32 - 1, 1 << 32, 1<<32 + 1, 1<<32 + 2, 1<<32 + 16, 1 << 62, math.MaxInt - 16, math.MaxInt - 1, math.MaxInt,
}

// all: takes all of these, each of which comes.
func (p pair) all(t *testing.T, list ...api.Datagram) {
	t.Helper()
	for _, d := range list {
		if e := p.take(t, d); e != api.OK {
			t.Fatalf("Take(%+v): %d", d, e)
		}
	}
}

// told: does Ready tell just these?
func (p pair) told(t *testing.T, want ...api.Input) {
	t.Helper()
	if got := p.ready(t); !slices.Equal(got, want) {
		t.Fatalf("Ready: %v, not %v", got, want)
	}
}

// counts: are these what the window tells?
func (p pair) counts(t *testing.T, base uint32, frames, doubles, mended int, top uint32) {
	t.Helper()
	if p.Base() != base || p.Frames() != frames || p.Doubles() != doubles || p.Mended() != mended || p.Top() != top {
		t.Fatalf("Base %d, Frames %d, Doubles %d, Mended %d, Top %d, not %d, %d, %d, %d, %d",
			p.Base(), p.Frames(), p.Doubles(), p.Mended(), p.Top(), base, frames, doubles, mended, top)
	}
}

// lacks: does Missing tell so of a group?
func (p pair) lacks(t *testing.T, no uint32, need int, want ...byte) {
	t.Helper()
	if list, n := p.Missing(no); !bytes.Equal(list, want) || n != need {
		t.Fatalf("Missing(%d): %v, %d, not %v, %d", no, list, n, want, need)
	}
}

// shard: of group no, from frame first on, with k data and m parity shards.
func shard(no, first uint32, k, m, i int) api.Datagram {
	kind := api.KindData
	if i >= k {
		kind = api.KindParity
	}
	return api.Datagram{Kind: kind, A: no, B: first, K: k, M: m, Index: i, Data: []byte{byte(no), byte(i)}}
}

// P18.1: nothing came; the groups 0 to 31 are open.
func TestNew(t *testing.T) {
	p := begun(t)
	p.counts(t, 0, 0, 0, 0, 0)
	p.told(t)
	for no := range uint32(100) {
		p.lacks(t, no, 0)
		if p.Open(no) != (no < 32) || p.Open(^no) {
			t.Errorf("Open(%d): %t; Open(%d): %t", no, p.Open(no), ^no, p.Open(^no))
		}
	}
}

// The chapter's example.
func TestExample(t *testing.T) {
	p := begun(t)
	list := made(t, 0, 0, 1, 5, 6)
	p.all(t, list[2])
	p.told(t)
	p.all(t, list[0])
	p.told(t, 5, 6)
	p.counts(t, 1, 2, 0, 1, 1)
}

// P18.2 to P18.4: by hand.
func TestNumbers(t *testing.T) {
	p := begun(t)
	a, b, c := made(t, 0, 0, 2, 10, 11, 12), made(t, 1, 3, 0, 20), made(t, 3, 6, 1, 40, 41)
	p.all(t, a[1], c[1])
	p.counts(t, 0, 0, 0, 0, 4)
	p.lacks(t, 0, 2, 0, 2)
	p.lacks(t, 1, 0)
	p.lacks(t, 3, 1, 0)
	p.all(t, a[4])
	p.lacks(t, 0, 1, 0, 2)
	p.all(t, b[0])
	p.lacks(t, 1, 0)
	if !p.Open(0) || p.Open(1) || !p.Open(2) || !p.Open(3) || !p.Open(31) || p.Open(32) {
		t.Errorf("open are %t, %t, %t, %t, %t, %t", p.Open(0), p.Open(1), p.Open(2), p.Open(3), p.Open(31), p.Open(32))
	}
	p.told(t)
	p.all(t, a[3])
	p.told(t, 10, 11, 12, 20)
	p.told(t)
	p.counts(t, 2, 4, 0, 1, 4)
	if p.Open(0) || p.Open(1) || !p.Open(2) || !p.Open(33) || p.Open(34) {
		t.Errorf("open are %t, %t, %t, %t, %t", p.Open(0), p.Open(1), p.Open(2), p.Open(33), p.Open(34))
	}
	p.all(t, c[0])
	p.lacks(t, 3, 0)
	p.counts(t, 2, 4, 0, 1, 4)
	p.all(t, made(t, 2, 4, 0, 30, 31)...)
	p.counts(t, 4, 8, 0, 1, 4)
	p.told(t, 30, 31, 40, 41)
}

// P18.1, P18.2: Doubles counts ErrTwice, of one that isn't whole and of one that is, not ErrOld.
func TestDoubles(t *testing.T) {
	p := begun(t)
	a, b := made(t, 0, 0, 2, 10, 11), made(t, 1, 2, 2, 20, 21)
	p.all(t, b[0])
	for n, i := range []int{0, 0} {
		if e := p.take(t, b[i]); e != api.ErrTwice || p.Doubles() != n+1 {
			t.Errorf("shard %d again: %d, Doubles %d", i, e, p.Doubles())
		}
	}
	p.all(t, b[3])
	for n, d := range b {
		if e := p.take(t, d); e != api.ErrTwice || p.Doubles() != n+3 {
			t.Errorf("shard %d of a whole one: %d, Doubles %d", n, e, p.Doubles())
		}
	}
	p.all(t, a[:2]...)
	for i := range 4 {
		for _, d := range []api.Datagram{a[i], b[i]} {
			if e := p.take(t, d); e != api.ErrOld || p.Doubles() != 6 {
				t.Errorf("shard %d of a told one: %d, Doubles %d", i, e, p.Doubles())
			}
		}
	}
	p.counts(t, 2, 4, 6, 1, 2)
}

// P18.1: Mended counts a group once, whichever of its shards was the last one; one of data shards alone isn't counted.
func TestMended(t *testing.T) {
	for _, c := range []struct {
		which  []int
		mended int
	}{
		{[]int{0, 1, 2}, 0}, {[]int{2, 0, 1}, 0}, {[]int{0, 1, 3}, 1}, {[]int{3, 1, 0}, 1}, {[]int{1, 4, 2}, 1}, {[]int{3, 4, 5}, 1}, {[]int{5, 0, 3}, 1},
	} {
		p := begun(t)
		list := made(t, 0, 0, 3, 7, 8, 9)
		for _, i := range c.which {
			if p.Mended() != 0 {
				t.Errorf("%v: mended ahead of shard %d", c.which, i)
			}
			p.all(t, list[i])
		}
		p.counts(t, 1, 3, 0, c.mended, 1)
		p.told(t, 7, 8, 9)
		alone := made(t, 1, 3, 2, 9)
		p.all(t, alone[2])
		p.counts(t, 2, 4, 0, c.mended+1, 2)
		p.told(t, 9)
	}
}

// P18.2: each error beside each row of those behind it; nothing but Doubles is changed.
func TestOrder(t *testing.T) {
	faults := []struct {
		e  api.Errno
		by func(*api.Datagram)
	}{
		{api.ErrKind, func(d *api.Datagram) { d.Kind = api.KindNack }},
		{api.ErrIndex, func(d *api.Datagram) { d.Index = d.K + d.M }},
		{api.ErrLength, func(d *api.Datagram) { d.Data = d.Data[:1] }},
		{api.ErrOld, func(d *api.Datagram) { d.A = 1 }},
		{api.ErrLong, func(d *api.Datagram) { d.A = 2 + 32 }},
		{api.ErrGroup, func(d *api.Datagram) { d.B++ }},
		{api.ErrTwice, func(d *api.Datagram) { d.Index = 0 }},
	}
	p := begun(t)
	p.all(t, shard(0, 0, 1, 0, 0), shard(1, 1, 1, 0, 0), shard(5, 9, 3, 2, 0))
	p.ready(t)
	for mask := 1; mask < 1<<len(faults); mask++ {
		d, want := shard(5, 9, 3, 2, 1), api.OK
		// Twice is laid first, so that it doesn't take back a number that there is not.
		for i, f := range slices.Backward(faults) {
			if mask>>i&1 == 1 {
				f.by(&d)
				want = f.e
			}
		}
		if mask>>3&3 == 3 {
			continue
		}
		doubles := p.Doubles()
		if want == api.ErrTwice {
			doubles++
		}
		if e := p.take(t, d); e != want {
			t.Fatalf("faults %b: Take(%+v): %d, not %d", mask, d, e, want)
		}
		p.counts(t, 2, 2, doubles, 0, 6)
		p.lacks(t, 5, 2, 1, 2)
		p.told(t)
	}
	p.all(t, shard(5, 9, 3, 2, 1))
}

// P18.2: ErrKind, unless it is one of both; the number of a shard tells whether it is parity.
func TestKinds(t *testing.T) {
	for _, kind := range append([]int{5, 6, 7, 8, 9}, edges...) {
		p := begun(t)
		d := shard(0, 0, 2, 1, 0)
		d.Kind = kind
		want := api.ErrKind
		if kind == api.KindData || kind == api.KindParity {
			want = api.OK
		}
		if e := p.take(t, d); e != want {
			t.Errorf("kind %d: %d", kind, e)
		}
	}
	p := begun(t)
	for _, d := range made(t, 0, 0, 0, 1, 2) {
		d.Kind = api.KindParity
		p.all(t, d)
	}
	for i, d := range made(t, 1, 2, 1, 3, 4) {
		d.Kind = api.KindData
		if i > 0 {
			p.all(t, d)
		}
	}
	p.told(t, 1, 2, 3, 4)
	p.counts(t, 2, 4, 0, 1, 2)
}

// P18.2: ErrIndex, at all K, M and Index.
func TestIndex(t *testing.T) {
	for _, k := range edges {
		for _, m := range edges {
			for _, i := range edges {
				w := New(field)
				d := api.Datagram{Kind: api.KindData, K: k, M: m, Index: i, Data: []byte{1, 2}}
				want := api.ErrIndex
				if k >= 1 && k <= 16 && m >= 0 && m <= 16 && i >= 0 && i < k+m {
					want = api.OK
				}
				if e := w.Take(d); e != want || (e != api.OK && (w.Top() != 0 || w.Base() != 0)) {
					t.Fatalf("K %d, M %d, Index %d: %d, Top %d", k, m, i, e, w.Top())
				}
			}
		}
	}
}

// P18.2: ErrLength.
func TestLength(t *testing.T) {
	p := begun(t)
	for _, n := range []int{0, 1, 3, 4, 255, 256, 258, 1200, 65538} {
		for _, i := range []int{0, 2} {
			d := shard(0, 0, 2, 1, i)
			d.Data = mixed.Bytes(n, n)
			if e := p.take(t, d); e != api.ErrLength {
				t.Errorf("%d bytes: %d", n, e)
			}
		}
	}
	d := shard(0, 0, 2, 1, 0)
	d.Data = nil
	if e := p.take(t, d); e != api.ErrLength {
		t.Errorf("nil: %d", e)
	}
	p.counts(t, 0, 0, 0, 0, 0)
}

// P18.2, P18.4: which groups are open, at each Base, also where numbers go round.
func TestPlaces(t *testing.T) {
	for _, base := range []uint32{0, 1, 5, 31, 32, 33, 1000, 1<<31 - 40, 1<<31 - 1, 1 << 31, 1<<32 - 33, 1<<32 - 32, 1<<32 - 31, 1<<32 - 1} {
		for _, ahead := range []uint32{0, 1, 2, 30, 31, 32, 33, 63, 64, 1 << 16, 1<<31 - 1, 1 << 31, 1<<31 + 1, 1<<32 - 65, 1<<32 - 64, 1<<32 - 33, 1<<32 - 32, 1<<32 - 2, 1<<32 - 1} {
			p := begun(t).from(base)
			want, top := api.OK, base+ahead+1
			if ahead >= 1<<31 {
				want, top = api.ErrOld, base
			} else if ahead > 31 {
				want, top = api.ErrLong, base
			}
			if e := p.take(t, shard(base+ahead, 7, 2, 0, 1)); e != want {
				t.Fatalf("from %d on, %d: %d, not %d", base, base+ahead, e, want)
			}
			p.counts(t, base, 0, 0, 0, top)
			p.group(t, base+ahead)
			if p.Open(base+ahead) != (ahead < 32) {
				t.Fatalf("from %d on, Open(%d): %t", base, base+ahead, p.Open(base+ahead))
			}
		}
	}
}

// P18.2: ErrGroup, of one of which something came, whole or not; another group may have anything.
func TestGroup(t *testing.T) {
	for _, came := range []int{1, 2} {
		p := begun(t)
		p.all(t, made(t, 4, 50, 2, 8, 9)[:came]...)
		for _, d := range []api.Datagram{
			shard(4, 51, 2, 2, 3), shard(4, 49, 2, 2, 3), shard(4, 0, 2, 2, 3), shard(4, 50+1<<31, 2, 2, 3), shard(4, 50, 3, 2, 3), shard(4, 50, 1, 2, 2),
			shard(4, 50, 2, 3, 3), shard(4, 50, 2, 1, 2), shard(4, 50, 3, 1, 3), shard(4, 50, 1, 3, 3), shard(4, 51, 2, 2, 0), shard(4, 50, 3, 2, 0), shard(4, 50, 2, 3, 0),
		} {
			if e := p.take(t, d); e != api.ErrGroup {
				t.Errorf("Take(%+v): %d", d, e)
			}
		}
		p.counts(t, 0, 0, 0, 0, 5)
		p.all(t, shard(5, 50, 2, 2, 0), shard(3, 51, 3, 1, 3), shard(6, 0, 1, 0, 0))
	}
}

// P18.2: a whole group that doesn't begin where the last one ended isn't told, nor are those behind it.
func TestStuck(t *testing.T) {
	for _, first := range []uint32{0, 1, 2, 4, 5, 1 << 31, 1<<31 + 3, 1<<32 - 1} {
		p := begun(t)
		p.all(t, made(t, 2, 5, 0, 3)...)
		p.all(t, made(t, 1, first, 1, 6, 7)[1:]...)
		p.all(t, made(t, 0, 0, 0, 1, 2, 4)...)
		p.told(t, 1, 2, 4)
		p.counts(t, 1, 3, 0, 1, 3)
		if e := p.take(t, shard(1, 3, 2, 1, 0)); e != api.ErrGroup {
			t.Errorf("the right one, behind one from frame %d on: %d", first, e)
		}
		if e := p.take(t, shard(1, first, 2, 1, 0)); e != api.ErrTwice {
			t.Errorf("one from frame %d on: %d", first, e)
		}
		p.all(t, made(t, 32, 3, 0, 9)...)
		if e := p.take(t, shard(33, 3, 1, 0, 0)); e != api.ErrLong {
			t.Errorf("Take of group 33: %d", e)
		}
		p.told(t)
		p.counts(t, 1, 3, 1, 1, 33)
	}
}

// P18.2: group 0 is told where it begins with frame 0 alone.
func TestFirst(t *testing.T) {
	for _, first := range []uint32{0, 1, 2, 1 << 16, 1 << 31, 1<<32 - 1} {
		p := begun(t)
		p.all(t, made(t, 0, first, 0, 9)...)
		if first == 0 {
			p.told(t, 9)
		} else {
			p.told(t)
			p.counts(t, 0, 0, 0, 0, 1)
		}
	}
}

// P18.2: all groups that are open are whole but the first one; then this comes, all are told, and of those that are open anew nothing came.
func TestFull(t *testing.T) {
	p := begun(t)
	for base := uint32(0); base < 128; base += 32 {
		var want []api.Input
		for no := base + 31; no > base; no-- {
			both := []api.Input{api.Input(no), api.Input(no * 999)}
			list := made(t, no, no*2, 1, both...)
			p.all(t, list[no%2], list[2])
			want = append(both, want...)
			if e := p.take(t, shard(base+32, base*2+64, 2, 1, 0)); e != api.ErrLong {
				t.Fatalf("the group behind the last one that is open: %d", e)
			}
		}
		p.told(t)
		p.counts(t, base, int(base)*2, 0, int(base)/32*31+31, base+32)
		p.all(t, made(t, base, base*2, 0, 5, 6)...)
		p.told(t, append([]api.Input{5, 6}, want...)...)
		p.counts(t, base+32, int(base)*2+64, 0, int(base)/32*31+31, base+32)
	}
}

// P18.2: of the group that is open anew nothing came, whatever came of the one that has gone.
func TestAnew(t *testing.T) {
	p := begun(t)
	p.all(t, made(t, 0, 0, 1, 1, 2, 3)[1:]...)
	p.lacks(t, 32, 0)
	p.all(t, shard(32, 90, 2, 4, 1))
	p.lacks(t, 32, 1, 0)
	p.told(t, 1, 2, 3)
	p.counts(t, 1, 3, 0, 1, 33)
}

// P18.3: what was told since it was last asked.
func TestReady(t *testing.T) {
	inputs := some(3, 60)
	for every := 1; every < 12; every++ {
		p := begun(t)
		var got []api.Input
		for no := range uint32(20) {
			p.all(t, made(t, no, no*3, 0, inputs[no*3:][:3]...)...)
			if int(no)%every == 0 {
				list := p.ready(t)
				if len(list) == 0 {
					t.Fatalf("behind group %d: nothing", no)
				}
				got = append(got, list...)
				p.told(t)
			}
		}
		if got = append(got, p.ready(t)...); !slices.Equal(got, inputs) {
			t.Fatalf("each %d groups: %v, not %v", every, got, inputs)
		}
		p.told(t)
	}
}

// P18.4: of each choice of shards that are fewer than are needed.
func TestMissing(t *testing.T) {
	for _, c := range []struct{ k, m int }{{1, 0}, {1, 3}, {2, 0}, {2, 2}, {3, 3}, {4, 2}, {5, 4}, {16, 0}} {
		for mask := range 1 << min(c.k+c.m, 9) {
			p := begun(t)
			var want []byte
			came := 0
			for i := range c.k + c.m {
				if mask>>i&1 == 1 {
					came++
				} else if i < c.k {
					want = append(want, byte(i))
				}
			}
			if came >= c.k || came == 0 {
				continue
			}
			for i := range c.k + c.m {
				if mask>>i&1 == 1 {
					p.all(t, shard(7, 70, c.k, c.m, i))
				}
			}
			p.lacks(t, 7, c.k-came, want...)
			p.lacks(t, 6, 0)
			p.lacks(t, 8, 0)
			p.counts(t, 0, 0, 0, 0, 8)
		}
	}
}

// P18.5: any K shards of a group are enough, and fewer aren't; each choice of those of small groups.
func TestChoices(t *testing.T) {
	for k := 1; k <= 5; k++ {
		for m := 0; m <= 4; m++ {
			inputs := some(k*5+m, k)
			list := made(t, 0, 0, m, inputs...)
			for mask := range 1 << len(list) {
				p := begun(t)
				came := 0
				for i, d := range list {
					if mask>>i&1 == 0 {
						continue
					}
					want := api.OK
					if came >= k {
						want = api.ErrOld
					}
					if e := p.take(t, d); e != want {
						t.Fatalf("%d and %d, choice %b: shard %d: %d", k, m, mask, i, e)
					}
					came++
				}
				if came < k {
					p.told(t)
				} else {
					p.told(t, inputs...)
				}
			}
		}
	}
}

// P18.5: groups of all sizes, of shards from each one on, and of the last ones first.
func TestSizes(t *testing.T) {
	for k := 1; k <= 16; k++ {
		for m := range 17 {
			inputs := some(k*17+m, k)
			list := made(t, 0, 0, m, inputs...)
			for from := range m + 1 {
				few := slices.Clone(list[from:][:k])
				if from%2 == 1 {
					slices.Reverse(few)
				}
				w := New(field)
				for i, d := range few {
					if e := w.Take(d); e != api.OK || (w.Base() == 1) != (i == k-1) {
						t.Fatalf("%d and %d, from %d on: %d, Base %d behind %d", k, m, from, e, w.Base(), i+1)
					}
				}
				mended := min(from, 1)
				if got := w.Ready(); !slices.Equal(got, inputs) || w.Mended() != mended || w.Frames() != k {
					t.Fatalf("%d and %d, from %d on: %v, not %v; Mended %d, Frames %d", k, m, from, got, inputs, w.Mended(), w.Frames())
				}
			}
		}
	}
}

// P18.2, P18.3: each row of five shards of two groups, and one that fits neither.
func TestRows(t *testing.T) {
	list := append(made(t, 0, 0, 1, 300, 4), made(t, 1, 2, 1, 5, 60000)...)
	list = append(list, shard(1, 0, 1, 1, 1))
	for row := range 7 * 7 * 7 * 7 * 7 {
		p := begun(t)
		for step, rest := 0, row; step < 5; step, rest = step+1, rest/7 {
			p.take(t, list[rest%7])
			if step == row%5 {
				p.ready(t)
			}
		}
		p.ready(t)
	}
}

// cut: the datagrams of all groups of a list of inputs, of sizes that hang on the seed.
func cut(t *testing.T, seed int, inputs []api.Input) []api.Datagram {
	t.Helper()
	by := mixed.Bytes(seed, 2*len(inputs))
	var list []api.Datagram
	for no, first := 0, 0; first < len(inputs); no++ {
		k := min(1+int(by[2*no]%16), len(inputs)-first)
		list = append(list, made(t, uint32(no), uint32(first), int(by[2*no+1]%17), inputs[first:][:k]...)...)
		first += k
	}
	return list
}

// P18.5: shards of one list of inputs that get lost, come twice, late, and in another order: what is told is a beginning of the list, and, when all shards come at last, the whole list.
func TestMany(t *testing.T) {
	for seed := range 24 {
		inputs := some(seed, 400)
		list := cut(t, seed, inputs)
		p := begun(t)
		var got []api.Input
		for step, by := range mixed.Bytes(seed+500, 3*len(list)) {
			// Some come from far ahead and from far behind.
			at := step/3 + int(by) - 128
			if by%4 > 0 {
				at = step/3 + int(by%16)
			}
			if at < 0 || at >= len(list) {
				continue
			}
			p.take(t, list[at])
			if by%5 == 0 {
				got = append(got, p.ready(t)...)
			}
			if told := append(slices.Clone(got), p.plain.told[p.plain.shown:]...); !slices.Equal(told, inputs[:p.Frames()]) {
				t.Fatalf("seed %d: %v, of %v", seed, told, inputs)
			}
		}
		for _, d := range list {
			p.take(t, d)
		}
		if got = append(got, p.ready(t)...); !slices.Equal(got, inputs) {
			t.Fatalf("seed %d: at the end %v, not %v", seed, got, inputs)
		}
	}
}

// wild: a shard that fits the open groups, or not, by ten bytes of any values.
func (p pair) wild(by []byte) api.Datagram {
	k, m := 1+int(by[0]%2), int(by[1]%3)
	d := api.Datagram{
		Kind: api.KindData, A: p.Base() + uint32(by[2]%4), B: uint32(p.Frames()) + uint32(by[2]%4), K: k, M: m, Index: int(by[3]) % (k + m), Data: by[4:6],
	}
	switch by[6] {
	case 0:
		d.A = uint32(by[7]) << 24
	case 1:
		d.Kind = int(by[7])
	case 2:
		d.K = int(by[7]) - 3
	case 3:
		d.Index = int(by[7]) - 3
	case 4:
		d.A -= uint32(by[7])
	case 5:
		d.A += uint32(by[7])
	case 6:
		d.Data = by[:by[7]%10]
	case 7:
		d.M = int(by[7]) - 3
	case 8:
		d.B += uint32(by[7]) - 3
	}
	return d
}

// P1, P18.2: whatever comes, with any bytes, also where numbers go round.
func TestWild(t *testing.T) {
	for seed := range 60 {
		by := mixed.Bytes(seed, 10*400)
		for len(by) > 0 {
			p := begun(t).from([]uint32{0, 1<<31 - 2, 1<<32 - 2}[seed%3])
			// Behind a group that begins with a wrong frame nothing is told any more.
			for ; len(by) > 0 && !p.plain.whole(p.Base()); by = by[10:] {
				p.take(t, p.wild(by))
				if by[8] < 40 {
					p.ready(t)
				}
			}
		}
	}
}

// P18.2: what stands in a datagram besides counts for nothing.
func TestBesides(t *testing.T) {
	p := begun(t)
	for i, d := range made(t, 0, 0, 1, 7, 8)[1:] {
		d.Session, d.Seq, d.Path, d.Tick = uint32(i)<<20, uint32(9-i), i-5, uint32(i)+1<<31
		p.all(t, d)
	}
	p.told(t, 7, 8)
}

// P2: windows have nothing in common; Missing's answer is new each time.
func TestApart(t *testing.T) {
	p, other := begun(t), begun(t)
	list := made(t, 0, 0, 2, 1, 2, 3)
	p.all(t, list[4])
	other.asked(t)
	other.all(t, list[1])
	missing, _ := p.Missing(0)
	again, _ := p.Missing(0)
	clear(missing[:cap(missing)])
	if !bytes.Equal(again, []byte{0, 1, 2}) {
		t.Errorf("Missing: %v", again)
	}
	p.all(t, list[:2]...)
	first := p.Ready()
	want := slices.Clone(first)
	p.plain.ready()
	p.all(t, made(t, 1, 3, 0, 9, 9, 9, 9)...)
	p.told(t, 9, 9, 9, 9)
	if !slices.Equal(first, want) || !slices.Equal(want, []api.Input{1, 2, 3}) {
		t.Errorf("what was told is %v now, not %v", first, want)
	}
	other.all(t, list[0], list[3])
	other.told(t, 1, 2, 3)
}
