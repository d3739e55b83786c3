package xport

import (
	"math"
	"slices"
	"testing"

	"backstay/api"
	"backstay/group"
	"backstay/rs"
	"backstay/wire"
)

// edges: numbers around what sizes, ages, counts and ticks are held to, and at the ends of int.
var edges = []int{
	math.MinInt, math.MinInt + 1, -1 << 32, -4096, -17, -1, 0, 1, 2, 3, 7, 8, 9, 15, 16, 17, 31, 32, 33, 255, 256,
	4095, 4096, 4097, 65535, 65536, 1<<32 - 1, 1 << 32, 1<<32 + 1, 1<<32 + 16, 1 << 62, math.MaxInt - 1, math.MaxInt,
}

// good: what an end tells of itself, if nothing else counts.
var good = wire.Quality{}

// even: the bytes of such an ack.
var even = []byte{0, 0, 0, 0}

// come: the datagrams of all shards of a group of the other end.
func come(t *testing.T, no, first uint32, m int, inputs ...api.Input) []api.Datagram {
	t.Helper()
	g, e := group.Make(field, no, first, m, inputs...)
	if e != api.OK {
		t.Fatalf("Make of %d inputs, %d parity shards: %d", len(inputs), m, e)
	}
	var list []api.Datagram
	for _, d := range g.All() {
		list = append(list, d)
	}
	return list
}

// all: takes all of these, none of which is refused or answered.
func (p pair) all(t *testing.T, list ...api.Datagram) {
	t.Helper()
	for _, d := range list {
		if out, e := p.take(t, d); e != api.OK || len(out) > 0 {
			t.Fatalf("Take(%+v): %+v, %d", d, out, e)
		}
	}
}

// goes: does Tick tell just these?
func (p pair) goes(t *testing.T, wait int, want ...Out) {
	t.Helper()
	if got := p.tick(t, good, wait); !alike(got, want) {
		t.Fatalf("Tick: %+v, not %+v", got, want)
	}
}

// adds: does Add tell just these?
func (p pair) adds(t *testing.T, in api.Input, want ...Out) {
	t.Helper()
	if got, e := p.add(t, in); e != api.OK || !alike(got, want) {
		t.Fatalf("Add(%d): %+v, %d, not %+v", in, got, e, want)
	}
}

// tells: an ack of the other end, of so many frames, with such losses.
func tells(frames uint32, loss int) api.Datagram {
	return api.Datagram{Kind: api.KindAck, A: frames, Data: wire.Quality{Loss: loss}.Bytes()}
}

// TestConstants: as they are named.
func TestConstants(t *testing.T) {
	if AckTicks != 8 {
		t.Errorf("AckTicks %d", AckTicks)
	}
}

// TestExample: the chapter's own.
func TestExample(t *testing.T) {
	a, b := made(t, 1, 4, 2), made(t, 1, 4, 2)
	a.adds(t, 5, piece(1, 0, 0, 1, 0, 0, 0, 5))
	a.counts(t, 1, 0, 0, 1, 0, 0)
	b.all(t, piece(1, 0, 0, 1, 0, 0, 0, 5).Data)
	if got := b.ready(t); !slices.Equal(got, []api.Input{5}) {
		t.Errorf("Ready: %v", got)
	}
	b.counts(t, 0, 0, 1, 0, 0, 0)
}

// TestNew: P20.1: group's error and none; else nothing was added, nor came.
func TestNew(t *testing.T) {
	for _, size := range edges {
		for _, age := range edges {
			for _, most := range edges {
				c := Config{Size: size, Age: age, Most: most}
				x, e := New(field, c)
				if size < 1 || size > 16 || age < 1 || age > 4096 || most < 0 || most > 16 {
					if x != nil || e != api.ErrRange {
						t.Fatalf("New(%+v): %v, %d", c, x, e)
					}
					continue
				}
				if x == nil || e != api.OK {
					t.Fatalf("New(%+v): %v, %d", c, x, e)
				}
				pair{x, nil}.counts(t, 0, 0, 0, 0, 0, 0)
				if got := x.Ready(); x.Peer() != good || len(got) > 0 {
					t.Fatalf("New(%+v): Peer %+v, Ready %v", c, x.Peer(), got)
				}
			}
		}
	}
}

// TestSizes: P20.2: a group goes as soon as there are Size inputs, and not ahead of that; it is kept.
func TestSizes(t *testing.T) {
	for size := 1; size <= 16; size++ {
		p := made(t, size, 4096, 0)
		for n := range 3 * size {
			out, e := p.add(t, api.Input(n*257))
			want := 0
			if (n+1)%size == 0 {
				want = size
			}
			if e != api.OK || len(out) != want {
				t.Fatalf("size %d, input %d: %+v, %d", size, n, out, e)
			}
			p.counts(t, n+1, 0, 0, (n+1)/size, 0, 0)
			for i, o := range out {
				in := (n + 1 - size + i) * 257
				if want := piece(1, uint32(n/size), uint32(n+1-size), size, 0, i, byte(in>>8), byte(in)); !alike([]Out{o}, []Out{want}) {
					t.Fatalf("size %d: %+v, not %+v", size, o, want)
				}
			}
		}
	}
}

// TestLoss: P20.2: the parity shards of a group are as many as what the peer told last asks for, and less urgent than the data shards.
func TestLoss(t *testing.T) {
	p := made(t, 2, 4, 3)
	p.adds(t, 0x102)
	p.adds(t, 0x304, piece(1, 0, 0, 2, 0, 0, 1, 2), piece(1, 0, 0, 2, 0, 1, 3, 4))
	p.all(t, tells(0, 60000), tells(0, 32768))
	code, _ := rs.New(field, 2, 3)
	parity, _ := code.Encode([]byte{5, 6}, []byte{7, 8})
	p.adds(t, 0x506)
	p.adds(t, 0x708,
		piece(1, 1, 2, 2, 3, 0, 5, 6), piece(1, 1, 2, 2, 3, 1, 7, 8),
		piece(2, 1, 2, 2, 3, 2, parity[0]...), piece(2, 1, 2, 2, 3, 3, parity[1]...), piece(2, 1, 2, 2, 3, 4, parity[2]...))
	p.counts(t, 4, 0, 0, 2, 0, 0)
}

// TestAge: P20.3: what has waited for Age ticks goes as a group, with as many parity shards as the peer's losses ask for.
func TestAge(t *testing.T) {
	for _, age := range []int{1, 2, 3, 6, 7, 4096} {
		p := made(t, 16, age, 1)
		p.all(t, tells(0, 9000))
		p.adds(t, 9)
		p.adds(t, 10)
		var out []Out
		for n := 1; n < age; n++ {
			if out = p.tick(t, good, 1); len(out) > 0 && n%8 > 0 {
				t.Fatalf("age %d, tick %d: %+v", age, n, out)
			}
		}
		if out = p.tick(t, good, 2); len(out) < 3 || out[0].Data.K != 2 || out[0].Data.M != 1 || out[2].Rank != 2 || out[2].Data.Kind != api.KindParity {
			t.Fatalf("age %d: %+v", age, out)
		}
		p.counts(t, 2, 0, 0, 1, 0, 0)
	}
}

// TestFull: P20.1, P20.2: 32 groups are kept at most; a 33rd one is ErrLong, and nothing happens, till one is let go.
func TestFull(t *testing.T) {
	for _, size := range []int{1, 3} {
		p := made(t, size, 2, 1)
		for n := range 32 * size {
			if p.Full() {
				t.Fatalf("Full behind %d inputs", n)
			}
			p.add(t, api.Input(n))
		}
		for range 3 {
			if out, e := p.add(t, 99); e != api.ErrLong || len(out) > 0 {
				t.Fatalf("Add: %+v, %d", out, e)
			}
		}
		p.counts(t, 32*size, 0, 0, 32, 0, 0)
		for range 3 {
			p.tick(t, good, 100)
		}
		p.all(t, tells(uint32(size-1), 0))
		if _, e := p.add(t, 99); e != api.ErrLong && size > 1 {
			t.Fatalf("Add, behind an ack of a part of the first group: %d", e)
		}
		p.all(t, tells(uint32(size), 0))
		p.counts(t, 32*size, size, 0, 31, 0, 0)
		for range size {
			p.add(t, 77)
		}
		if out, e := p.add(t, 99); e != api.ErrLong || len(out) > 0 {
			t.Fatalf("Add: %+v, %d", out, e)
		}
		p.counts(t, 33*size, size, 0, 32, 0, 0)
	}
}

// TestFullTick: P20.1, P20.3: the 32nd group may go by Tick.
func TestFullTick(t *testing.T) {
	p := made(t, 2, 3, 0)
	for n := range 63 {
		p.add(t, api.Input(n))
	}
	p.goes(t, 50)
	p.goes(t, 50)
	p.goes(t, 50, piece(1, 31, 62, 1, 0, 0, 0, 62))
	p.counts(t, 63, 0, 0, 32, 0, 0)
	if _, e := p.add(t, 5); e != api.ErrLong {
		t.Errorf("Add: %d", e)
	}
}

// TestAsks: P20.3: by hand: what is asked for, of groups of which something came, and of those ahead of them; what is whole isn't asked for.
func TestAsks(t *testing.T) {
	p := made(t, 1, 1, 0)
	b, c, d := come(t, 1, 3, 2, 10, 11, 12), come(t, 2, 6, 0, 20), come(t, 3, 7, 1, 30, 31)
	p.all(t, b[1], b[3], c[0], d[2])
	p.counts(t, 0, 0, 0, 0, 0, 0)
	p.goes(t, 2, ack(0, 0, even...))
	p.counts(t, 0, 0, 0, 0, 3, 0) // 0, of which nothing came, 1 and 3
	p.goes(t, 2, ask(0, 0, 1, 2, 3, 4, 5, 6, 7, 8, 9, 10, 11, 12, 13, 14, 15), ask(1, 0, 2), ask(3, 0, 1))
	for range 3 {
		p.goes(t, 2)
	}
	p.all(t, b[0]) // 1 is whole now
	p.goes(t, 2, ask(0, 0, 1, 2, 3, 4, 5, 6, 7, 8, 9, 10, 11, 12, 13, 14, 15), ask(3, 0, 1), ack(0, 0, even...))
	p.counts(t, 0, 0, 0, 0, 2, 0)
	p.all(t, come(t, 0, 0, 0, 1, 2, 3)...)
	p.counts(t, 0, 0, 7, 0, 2, 0)
	p.goes(t, 2, ack(7, 0, even...))
	p.counts(t, 0, 0, 7, 0, 1, 0) // 0 is behind Base
	p.all(t, d[0])
	p.goes(t, 2, ack(9, 0, even...))
	p.counts(t, 0, 0, 9, 0, 0, 0)
	if got := p.ready(t); !slices.Equal(got, []api.Input{1, 2, 3, 10, 11, 12, 20, 30, 31}) {
		t.Errorf("Ready: %v", got)
	}
}

// TestBelow: P20.3: a group that came whole between two ticks, and with it Base went beyond it, isn't waited for, nor asked for, though it was due.
func TestBelow(t *testing.T) {
	p := made(t, 1, 1, 0)
	a, b := come(t, 0, 0, 0, 1, 2), come(t, 1, 2, 0, 3, 4)
	p.all(t, a[0], b[0])
	p.goes(t, 2, ack(0, 0, even...))
	p.counts(t, 0, 0, 0, 0, 2, 0)
	p.all(t, b[1], a[1])
	p.goes(t, 2, ack(4, 0, even...))
	p.counts(t, 0, 0, 4, 0, 0, 0)
}

// TestAskPauses: P20.3: by hand: at which ticks a group is asked for: what Tick is told goes to both, Wait and Tick of the list, of which the first one stands ahead of the other one.
func TestAskPauses(t *testing.T) {
	for _, c := range []struct {
		wait int
		want []int
	}{
		{math.MinInt, []int{1, 3, 7, 15, 31, 63, 95, 127}},
		{0, []int{1, 3, 7, 15, 31, 63, 95, 127}},
		{1, []int{1, 3, 7, 15, 31, 63, 95, 127}},
		{2, []int{2, 6, 14, 30, 62, 126, 190}},
		{3, []int{3, 9, 21, 45, 93, 189}},
		{7, []int{7, 21, 49, 105, 205, 305}},
		{60, []int{60, 160, 260}},
		{100, []int{100, 200, 300}},
		{150, []int{150, 300}},
		{4096, []int{4096, 8192}},
		{math.MaxInt, []int{4096, 8192}},
	} {
		p := made(t, 1, 1, 0)
		p.all(t, come(t, 0, 0, 0, 1, 2)[1])
		var got []int
		for n := 1; n <= c.want[len(c.want)-1]; n++ {
			for _, o := range p.tick(t, good, c.wait) {
				if o.Data.Kind == api.KindAck {
					continue
				}
				got = append(got, n)
				if !alike([]Out{o}, []Out{ask(0, 0)}) {
					t.Fatalf("wait %d, tick %d: %+v", c.wait, n, o)
				}
			}
		}
		if !slices.Equal(got, c.want) {
			t.Errorf("wait %d: %v, not %v", c.wait, got, c.want)
		}
	}
}

// TestManyAsks: P20.3: all 32 groups that are open may be waited for.
func TestManyAsks(t *testing.T) {
	p := made(t, 1, 1, 0)
	p.all(t, come(t, 31, 99, 0, 1, 2)[0])
	p.goes(t, 2, ack(0, 0, even...))
	p.counts(t, 0, 0, 0, 0, 32, 0)
	out := p.tick(t, good, 2)
	out = append(out, p.tick(t, good, 2)...)
	if len(out) != 32 || out[0].Data.A != 0 || len(out[0].Data.Data) != 16 || out[31].Data.A != 31 || !slices.Equal(out[31].Data.Data, []byte{1}) {
		t.Errorf("%+v", out)
	}
}

// TestReminds: P20.3: behind wait ticks, held from 1 to 4096, the first shard of the last kept group goes again, and again behind as many.
func TestReminds(t *testing.T) {
	for _, wait := range edges {
		p := made(t, 1, 1, 0)
		p.adds(t, 3, piece(1, 0, 0, 1, 0, 0, 0, 3))
		p.adds(t, 260, piece(1, 1, 1, 1, 0, 0, 1, 4))
		held := min(max(wait, 1), 4096)
		for n := 1; n <= 2*held+20; n++ {
			out := p.tick(t, good, wait)
			var want []Out
			if n%held == 0 {
				want = append(want, piece(1, 1, 1, 1, 0, 0, 1, 4))
			}
			if n%8 == 0 {
				want = append(want, ack(0, 0, even...))
			}
			if !alike(out, want) {
				t.Fatalf("wait %d, tick %d: %+v, not %+v", wait, n, out, want)
			}
		}
	}
}

// TestRemindsAnew: P20.3, P20.4: what begins to count anew: an ack that tells more, and that nothing is kept; not one that tells no more, nor a shard, nor a group that goes.
func TestRemindsAnew(t *testing.T) {
	first, second := piece(1, 0, 0, 1, 0, 0, 0, 3), piece(1, 1, 1, 1, 0, 0, 0, 4)
	for _, c := range []struct {
		name string
		by   func(p pair)
		left int // ticks until one goes again, of 4, behind 3 of them
		want Out
	}{
		{"nothing", func(p pair) {}, 1, second},
		{"an ack that tells more", func(p pair) { p.all(t, tells(1, 0)) }, 4, second},
		{"one that tells no more", func(p pair) { p.all(t, tells(0, 500)) }, 1, second},
		{"a refused one", func(p pair) { p.take(t, tells(4, 500)) }, 1, second},
		{"a shard", func(p pair) { p.take(t, come(t, 0, 0, 0, 1)[0]) }, 1, second},
		{"a question", func(p pair) { p.take(t, ask(0, 0).Data) }, 1, second},
		{"an input", func(p pair) { p.add(t, 5) }, 1, piece(1, 2, 2, 1, 0, 0, 0, 5)},
		{"all told, and a group ahead of the next tick", func(p pair) { p.all(t, tells(2, 0)); p.add(t, 5) }, 4, piece(1, 2, 2, 1, 0, 0, 0, 5)},
		{"all told, and a group behind the next tick", func(p pair) { p.all(t, tells(2, 0)); p.tick(t, good, 4); p.add(t, 5) }, 4, piece(1, 2, 2, 1, 0, 0, 0, 5)},
	} {
		p := made(t, 1, 1, 0)
		p.adds(t, 3, first)
		p.adds(t, 4, second)
		for range 3 {
			p.goes(t, 4)
		}
		c.by(p)
		for n := 1; n <= c.left; n++ {
			out := slices.DeleteFunc(p.tick(t, good, 4), func(o Out) bool { return o.Data.Kind == api.KindAck })
			if n < c.left && len(out) > 0 || n == c.left && !alike(out, []Out{c.want}) {
				t.Fatalf("%s, tick %d: %+v", c.name, n, out)
			}
		}
	}
}

// TestRemindsNone: P20.3: while nothing is kept no ticks are counted.
func TestRemindsNone(t *testing.T) {
	p := made(t, 1, 1, 0)
	p.adds(t, 3, piece(1, 0, 0, 1, 0, 0, 0, 3))
	p.goes(t, 3)
	p.goes(t, 3)
	p.all(t, tells(1, 0))
	for n := range 20 {
		for _, o := range p.tick(t, good, 1) {
			if o.Data.Kind != api.KindAck {
				t.Fatalf("tick %d: %+v", n, o)
			}
		}
	}
	p.adds(t, 4, piece(1, 1, 1, 1, 0, 0, 0, 4))
	p.goes(t, 2)
	p.goes(t, 2, piece(1, 1, 1, 1, 0, 0, 0, 4), ack(0, 0, even...))
}

// TestBelowAcked: P20.3, P20.4: a group that goes when more is Acked already, of an ack of inputs that waited, is kept till the next ack, which needn't tell more; the ticks that counted for it are 0 again at a tick at which none is kept, and not ahead of that.
func TestBelowAcked(t *testing.T) {
	for _, empty := range []bool{true, false} {
		p := made(t, 2, 2, 0)
		p.adds(t, 5)
		p.all(t, tells(1, 0))
		p.goes(t, 9)
		p.goes(t, 9, piece(1, 0, 0, 1, 0, 0, 0, 5))
		p.goes(t, 9)
		p.counts(t, 1, 1, 0, 1, 0, 0)
		p.all(t, tells(0, 0))
		p.counts(t, 1, 1, 0, 0, 0, 0)
		left := 2
		if empty {
			p.goes(t, 9)
			left = 4
		}
		p.adds(t, 6)
		p.adds(t, 7, piece(1, 1, 1, 2, 0, 0, 0, 6), piece(1, 1, 1, 2, 0, 1, 0, 7))
		for range left - 1 {
			p.goes(t, 4)
		}
		out := p.tick(t, good, 4)
		if len(out) == 0 || !alike(out[:1], []Out{piece(1, 1, 1, 2, 0, 0, 0, 6)}) {
			t.Errorf("none kept at a tick is %t: %+v", empty, out)
		}
	}
}

// TestRemindsOther: P20.3: the wait that counts is that of each Tick; where it is fewer than have gone, one goes at once.
func TestRemindsOther(t *testing.T) {
	p := made(t, 1, 1, 0)
	shard := piece(1, 0, 0, 1, 0, 0, 0, 3)
	p.adds(t, 3, shard)
	for range 4 {
		p.goes(t, 9)
	}
	p.goes(t, 2, shard)
	p.goes(t, 2)
	p.goes(t, 3)
	p.goes(t, 3, shard, ack(0, 0, even...))
}

// TestAcks: P20.3: one goes each 8th tick; one that is due at once, and the next one, if none is due, 8 ticks behind it.
func TestAcks(t *testing.T) {
	shards := come(t, 0, 0, 0, 1, 2, 3)
	for due := range 20 {
		p := made(t, 1, 1, 0)
		last := 0
		for n := 1; n <= 40; n++ {
			if n == due {
				p.all(t, shards[2])
			}
			want := []Out{}
			if n == due || n == last+8 {
				want = append(want, ack(0, 0, even...))
				last = n
			}
			p.goes(t, 4096, want...)
		}
	}
}

// TestAckFields: P20.3: how many came, the Tick that was heard last, and what is told besides, held to what an ack may tell.
func TestAckFields(t *testing.T) {
	p := made(t, 1, 1, 0)
	for n, c := range []struct {
		own  wire.Quality
		want []byte
	}{
		{wire.Quality{}, even},
		{wire.Quality{Ahead: -2, Loss: 258}, []byte{255, 254, 1, 2}},
		{wire.Quality{Ahead: 515, Loss: 65535}, []byte{2, 3, 255, 255}},
		{wire.Quality{Ahead: math.MaxInt, Loss: math.MaxInt}, []byte{127, 255, 255, 255}},
		{wire.Quality{Ahead: math.MinInt, Loss: math.MinInt}, []byte{128, 0, 0, 0}},
	} {
		d := come(t, uint32(n), uint32(2*n), 0, 7, 8)
		d[0].Tick, d[1].Tick = 1<<32-1, uint32(n)<<29
		p.all(t, d...)
		if got := p.tick(t, c.own, 9); !alike(got, []Out{ack(uint32(2*n+2), uint32(n)<<29, c.want...)}) {
			t.Errorf("%+v: %+v", c.own, got)
		}
	}
}

// TestDue: P20.4: with which errors of the window an ack is due, and with which it isn't.
func TestDue(t *testing.T) {
	old, whole, half := come(t, 0, 0, 0, 5), come(t, 3, 3, 0, 6), come(t, 2, 1, 1, 7, 8)
	other := func(by func(d *api.Datagram)) api.Datagram {
		d := half[1]
		by(&d)
		return d
	}
	for _, c := range []struct {
		e   api.Errno
		d   api.Datagram
		due bool
	}{
		{api.OK, half[1], true},
		{api.OK, half[2], true},
		{api.OK, come(t, 1, 1, 0, 9)[0], true},
		{api.ErrTwice, half[0], true},
		{api.ErrTwice, whole[0], true},
		{api.ErrOld, old[0], true},
		{api.ErrIndex, other(func(d *api.Datagram) { d.K = 17 }), false},
		{api.ErrIndex, other(func(d *api.Datagram) { d.Index = 3 }), false},
		{api.ErrLength, other(func(d *api.Datagram) { d.Data = d.Data[:1] }), false},
		{api.ErrLong, other(func(d *api.Datagram) { d.A = 1 + 32 }), false},
		{api.ErrGroup, other(func(d *api.Datagram) { d.B++ }), false},
	} {
		for _, kind := range []int{api.KindData, api.KindParity} {
			p := made(t, 1, 1, 0)
			p.all(t, old[0], whole[0], half[0])
			p.goes(t, 4096, ack(1, 0, even...))
			p.goes(t, 4096)
			c.d.Kind = kind
			if out, e := p.take(t, c.d); e != c.e || len(out) > 0 {
				t.Fatalf("Take(%+v): %+v, %d, not %d", c.d, out, e, c.e)
			}
			if got := p.tick(t, good, 4096); len(got) > 0 != c.due {
				t.Fatalf("behind %d: %+v", c.e, got)
			}
		}
	}
}

// TestHeard: P20.4: the Tick that was heard last is that of what was taken last without error, of each kind, though it be a lesser one.
func TestHeard(t *testing.T) {
	shards := come(t, 0, 0, 1, 7, 8)
	p := made(t, 1, 1, 0)
	p.add(t, 5)
	for n, c := range []struct {
		d    api.Datagram
		e    api.Errno
		tick uint32
	}{
		{shards[0], api.OK, 70},
		{shards[0], api.ErrTwice, 71},
		{shards[2], api.OK, 69},
		{shards[1], api.ErrOld, 72},
		{come(t, 40, 0, 0, 1)[0], api.ErrLong, 73},
		{ask(0, 0).Data, api.OK, 74},
		{ask(9, 0).Data, api.OK, 68},
		{tells(2, 0), api.ErrGap, 75},
		{tells(1, 0), api.OK, 1<<32 - 1},
		{tells(0, 0), api.OK, 0},
		{api.Datagram{Kind: api.KindKeep}, api.ErrKind, 76},
	} {
		want := p.plain.heard
		if c.e == api.OK {
			want = c.tick
		}
		c.d.Tick = c.tick
		if _, e := p.take(t, c.d); e != c.e {
			t.Fatalf("Take(%+v): %d, not %d", c.d, e, c.e)
		}
		for acked := false; !acked; {
			for _, o := range p.tick(t, good, 4096) {
				if acked = o.Data.Kind == api.KindAck; acked && o.Data.B != want {
					t.Errorf("step %d: heard is %d, not %d", n, o.Data.B, want)
				}
			}
		}
	}
	p.counts(t, 1, 1, 2, 0, 0, 5)
}

// TestQuestions: P20.4: by hand: what goes again, of the kept groups.
func TestQuestions(t *testing.T) {
	p := made(t, 2, 9, 16)
	p.all(t, tells(0, 20000))
	var sent [][]Out
	for n := range 3 {
		p.add(t, api.Input(n*2))
		out, _ := p.add(t, api.Input(n*2+1))
		for i := range out {
			out[i].Rank = 1
		}
		sent = append(sent, out)
	}
	count := len(sent[1])
	if count < 4 {
		t.Fatalf("of %d shards", count)
	}
	p.all(t, tells(3, 20000)) // group 0 isn't kept any more
	last := byte(count - 1)
	for _, c := range []struct {
		no      uint32
		numbers []byte
		want    []Out
	}{
		{1, []byte{0}, sent[1][:1]},
		{1, []byte{1, 3}, []Out{sent[1][1], sent[1][3]}},
		{2, []byte{0, 1, 2}, sent[2][:3]},
		{2, []byte{last}, []Out{sent[2][last]}},
		{2, []byte{last, last + 1}, []Out{sent[2][last]}},
		{1, []byte{0, 1, 2, 3, 4, 5, 6, 7, 8, 9, 10, 11, 12, 13, 14, 15}, sent[1]},
		{1, []byte{last + 1, 31, 32, 128, 255}, nil},
		{1, []byte{3, 255, 0}, []Out{sent[1][3], sent[1][0]}},
		{1, nil, nil},
		{0, []byte{0, 1}, nil},
		{3, []byte{0, 1}, nil},
		{31, []byte{0}, nil},
		{33, []byte{0}, nil},
		{1 << 31, []byte{0}, nil},
		{1<<31 + 1, []byte{0}, nil},
		{1<<32 - 1, []byte{0}, nil},
	} {
		d := ask(c.no, c.numbers...).Data
		if out, e := p.take(t, d); e != api.OK || !alike(out, c.want) {
			t.Errorf("Take(%+v): %+v, %d, not %+v", d, out, e, c.want)
		}
	}
	p.counts(t, 6, 3, 0, 2, 0, 0)
}

// TestQuestionMany: P20.4: of each of 32 kept groups each shard that there is, by one question for all bytes.
func TestQuestionMany(t *testing.T) {
	p := made(t, 1, 1, 16)
	p.all(t, tells(0, 65535))
	var sent [][]Out
	for n := range 40 {
		if n >= 32 {
			p.all(t, tells(uint32(n-31), 65535))
		}
		out, e := p.add(t, api.Input(n))
		if e != api.OK || len(out) != 17 {
			t.Fatalf("Add: %+v, %d", out, e)
		}
		sent = append(sent, out)
	}
	var all []byte
	for i := range 256 {
		all = append(all, byte(i))
	}
	for no, want := range sent {
		out, e := p.take(t, ask(uint32(no), all...).Data)
		if no < 8 {
			want = nil
		}
		for i := range want {
			want[i].Rank = 1
		}
		if e != api.OK || !alike(out, want) {
			t.Errorf("group %d: %+v, %d, not %+v", no, out, e, want)
		}
	}
}

// TestTold: P20.4: Acked only grows; ErrGap, above Sent, changes nothing but Bad; Peer is what was told last, whatever Acked is.
func TestTold(t *testing.T) {
	p := made(t, 2, 9, 0)
	for n := range 5 {
		p.add(t, api.Input(n))
	}
	bad := 0
	for _, c := range []struct {
		frames      uint32
		data        []byte
		acked, kept int
		peer        wire.Quality
		gap         bool
	}{
		{0, []byte{0, 1, 0, 2}, 0, 2, wire.Quality{Ahead: 1, Loss: 2}, false},
		{6, []byte{0, 3, 0, 4}, 0, 2, wire.Quality{Ahead: 1, Loss: 2}, true},
		{1, []byte{255, 255, 255, 255}, 1, 2, wire.Quality{Ahead: -1, Loss: 65535}, false},
		{2, []byte{0, 1, 0, 2}, 2, 1, wire.Quality{Ahead: 1, Loss: 2}, false},
		{1, []byte{0, 5, 0, 6}, 2, 1, wire.Quality{Ahead: 5, Loss: 6}, false},
		{1 << 31, []byte{0, 3, 0, 4}, 2, 1, wire.Quality{Ahead: 5, Loss: 6}, true},
		{1<<32 - 1, nil, 2, 1, wire.Quality{Ahead: 5, Loss: 6}, true},
		{2, []byte{0, 5, 0}, 2, 1, wire.Quality{}, false},
		{3, []byte{0, 5, 0, 6}, 3, 1, wire.Quality{Ahead: 5, Loss: 6}, false},
		{3, []byte{0, 5, 0, 6, 7}, 3, 1, wire.Quality{}, false},
		{5, []byte{0, 5, 0, 6}, 5, 0, wire.Quality{Ahead: 5, Loss: 6}, false}, // the last one of these isn't in a group yet
		{4, nil, 5, 0, wire.Quality{}, false},
		{6, nil, 5, 0, wire.Quality{}, true},
	} {
		want := api.OK
		if c.gap {
			bad, want = bad+1, api.ErrGap
		}
		d := api.Datagram{Kind: api.KindAck, A: c.frames, B: 77, Data: c.data}
		if out, e := p.take(t, d); e != want || len(out) > 0 {
			t.Fatalf("Take(%+v): %+v, %d, not %d", d, out, e, want)
		}
		p.counts(t, 5, c.acked, 0, c.kept, 0, bad)
		if p.Peer() != c.peer {
			t.Fatalf("Take(%+v): Peer %+v, not %+v", d, p.Peer(), c.peer)
		}
	}
	p.adds(t, 9, piece(1, 2, 4, 2, 0, 0, 0, 4), piece(1, 2, 4, 2, 0, 1, 0, 9))
	p.counts(t, 6, 5, 0, 1, 0, bad)
	p.all(t, tells(6, 0))
	p.counts(t, 6, 6, 0, 0, 0, bad)
}

// TestReleases: P20.4: which groups are let go, at each number of frames, of groups of different sizes.
func TestReleases(t *testing.T) {
	for frames := range 12 {
		p := made(t, 4, 1, 0)
		ends := []int{1, 5, 7, 11}
		n := 0
		for _, end := range ends {
			for ; n < end; n++ {
				p.add(t, api.Input(n))
			}
			p.tick(t, good, 4096)
		}
		p.counts(t, 11, 0, 0, 4, 0, 0)
		p.all(t, tells(uint32(frames), 0))
		kept := 0
		for _, end := range ends {
			if end > frames {
				kept++
			}
		}
		p.counts(t, 11, frames, 0, kept, 0, 0)
		for no := range ends {
			out, _ := p.take(t, ask(uint32(no), 0).Data)
			if len(out) > 0 != (ends[no] > frames) {
				t.Errorf("%d frames: of group %d goes %+v", frames, no, out)
			}
		}
	}
}

// TestKinds: P20.4: ErrKind of others, and nothing but Bad is changed.
func TestKinds(t *testing.T) {
	p := made(t, 1, 1, 0)
	p.add(t, 5)
	bad := 0
	for _, kind := range append([]int{-2, -3, -4, -5, 1, 6, 7, 8, 9, 10, 258, 259}, edges...) {
		if kind >= 2 && kind <= 5 {
			continue
		}
		bad++
		d := api.Datagram{Kind: kind, A: 1, Tick: 9, K: 1, Data: []byte{0, 9, 0, 9}}
		if out, e := p.take(t, d); e != api.ErrKind || len(out) > 0 {
			t.Fatalf("kind %d: %+v, %d", kind, out, e)
		}
		p.counts(t, 1, 0, 0, 1, 0, bad)
	}
	for range 7 {
		p.goes(t, 4096)
	}
	p.goes(t, 4096, ack(0, 0, even...))
}

// TestOrder: P20.3: what goes at one tick goes in the order that is named: a group, questions, what goes again, an ack.
func TestOrder(t *testing.T) {
	p := made(t, 9, 2, 1)
	p.all(t, tells(0, 9000))
	p.all(t, come(t, 1, 2, 0, 7, 8)[1])
	p.add(t, 258)
	p.goes(t, 2, ack(0, 0, even...))
	p.all(t, come(t, 1, 2, 0, 7, 8)[0])
	p.goes(t, 1,
		piece(1, 0, 0, 1, 1, 0, 1, 2), piece(2, 0, 0, 1, 1, 1, 1, 2),
		ask(0, 0, 1, 2, 3, 4, 5, 6, 7, 8, 9, 10, 11, 12, 13, 14, 15),
		piece(1, 0, 0, 1, 1, 0, 1, 2), ack(0, 0, even...))
}

// TestReady: P20.1: the inputs that came since it was last asked, in order; Came counts all.
func TestReady(t *testing.T) {
	p := made(t, 1, 1, 0)
	p.all(t, come(t, 1, 2, 0, 30)...)
	if got := p.ready(t); len(got) > 0 || p.Came() != 0 {
		t.Errorf("Ready: %v, Came %d", got, p.Came())
	}
	p.all(t, come(t, 0, 0, 0, 10, 20)...)
	if got := p.ready(t); !slices.Equal(got, []api.Input{10, 20, 30}) || p.Came() != 3 {
		t.Errorf("Ready: %v, Came %d", got, p.Came())
	}
	if got := p.ready(t); len(got) > 0 || p.Came() != 3 {
		t.Errorf("Ready: %v, Came %d", got, p.Came())
	}
}
