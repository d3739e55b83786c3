package xport

import (
	"bytes"
	"slices"
	"testing"

	"backstay/api"
	"backstay/gf"
	"backstay/group"
	"backstay/nack"
	"backstay/reasm"
	"backstay/redund"
	"backstay/wire"
)

var field = gf.New()

// plain is what an end should be: it keeps all that was added and all groups that went, and looks through all of them for each answer.
type plain struct {
	c       Config
	control *redund.Control
	added   []api.Input
	waited  int
	groups  []group.Group
	gone    int // of these, those that were let go
	window  *reasm.Window
	asks    *nack.List
	acked   int
	bad     int
	peer    wire.Quality
	heard   uint32
	silent  int
	ticks   int // Ticks since the last ack
	owing   bool
}

// grouped: how many inputs are in groups.
func (p *plain) grouped() int {
	n := 0
	for _, g := range p.groups {
		n += g.K
	}
	return n
}

// kept: the groups that weren't let go.
func (p *plain) kept() []group.Group { return p.groups[p.gone:] }

// release: the first kept groups are let go, all of whose frames the other end has told to have.
func (p *plain) release() {
	for _, g := range p.kept() {
		if int(g.First)+g.K > p.acked {
			return
		}
		p.gone++
	}
}

// shards: of a group, those of some numbers, with their ranks.
func shards(g group.Group, rank func(i int) int, numbers ...int) []Out {
	var out []Out
	for _, i := range numbers {
		if d, e := g.Datagram(i); e == api.OK {
			out = append(out, Out{rank(i), d})
		}
	}
	return out
}

// pressing: the rank of each that goes again.
func pressing(int) int { return 1 }

// close: what is in no group goes as one.
func (p *plain) close() []Out {
	first := p.grouped()
	inputs := p.added[first:]
	m := p.control.Next(len(inputs), p.peer.Loss)
	g, _ := group.Make(field, uint32(len(p.groups)), uint32(first), m, inputs...)
	p.groups = append(p.groups, g)
	p.waited = 0
	var all []int
	for i := range len(inputs) + m {
		all = append(all, i)
	}
	return shards(g, func(i int) int {
		if i < len(inputs) {
			return 1
		}
		return 2
	}, all...)
}

// add: what Add should answer.
func (p *plain) add(in api.Input) ([]Out, api.Errno) {
	if len(p.kept()) == 32 {
		return nil, api.ErrLong
	}
	p.added = append(p.added, in)
	if len(p.added)-p.grouped() < p.c.Size {
		return nil, api.OK
	}
	return p.close(), api.OK
}

// tick: what Tick should answer.
func (p *plain) tick(own wire.Quality, wait int) []Out {
	var out []Out
	if len(p.kept()) < 32 && len(p.added) > p.grouped() {
		if p.waited++; p.waited == p.c.Age {
			out = p.close()
		}
	}
	out = append(out, p.ask(wait)...)
	if kept := p.kept(); len(kept) == 0 {
		p.silent = 0
	} else if p.silent++; p.silent >= min(max(wait, 1), 4096) {
		p.silent = 0
		out = append(out, shards(kept[len(kept)-1], pressing, 0)...)
	}
	if p.ticks++; p.owing || p.ticks == 8 {
		p.owing, p.ticks = false, 0
		out = append(out, ack(uint32(p.window.Frames()), p.heard, own.Bytes()...))
	}
	return out
}

// ask: the list's part of Tick.
func (p *plain) ask(wait int) []Out {
	p.asks.Below(p.window.Base())
	for no := p.window.Base(); no < p.window.Top(); no++ {
		if p.window.Open(no) {
			p.asks.Wait(no, wait)
		} else {
			p.asks.Stop(no)
		}
	}
	var out []Out
	for _, no := range p.asks.Tick(wait) {
		numbers, _ := p.window.Missing(no)
		if len(numbers) == 0 {
			numbers = []byte{0, 1, 2, 3, 4, 5, 6, 7, 8, 9, 10, 11, 12, 13, 14, 15}
		}
		out = append(out, ask(no, numbers...))
	}
	return out
}

// take: what Take should answer.
func (p *plain) take(d api.Datagram) ([]Out, api.Errno) {
	var out []Out
	e := api.OK
	switch {
	case d.Kind == api.KindData || d.Kind == api.KindParity:
		e = p.window.Take(d)
		p.owing = p.owing || slices.Contains([]api.Errno{api.OK, api.ErrTwice, api.ErrOld}, e)
	case d.Kind == api.KindNack:
		for _, g := range p.kept() {
			for _, i := range d.Data {
				if g.No == d.A {
					out = append(out, shards(g, pressing, int(i))...)
				}
			}
		}
	case d.Kind == api.KindAck && int64(d.A) > int64(len(p.added)):
		e = api.ErrGap
	case d.Kind == api.KindAck:
		if int(d.A) > p.acked {
			p.acked, p.silent = int(d.A), 0
		}
		p.peer = wire.Told(d.Data)
		p.release()
	default:
		e = api.ErrKind
	}
	if e != api.OK {
		p.bad++
		return nil, e
	}
	p.heard = d.Tick
	return out, api.OK
}

// pair is an end, and what it should be.
type pair struct {
	*Xport
	plain *plain
}

// made: both, as they begin.
func made(t *testing.T, size, age, most int) pair {
	t.Helper()
	c := Config{Size: size, Age: age, Most: most}
	x, e := New(field, c)
	if e != api.OK || x == nil {
		t.Fatalf("New(%+v): %d", c, e)
	}
	control, _ := redund.New(most)
	asks, _ := nack.New(32)
	p := pair{x, &plain{c: c, control: control, window: reasm.New(field), asks: asks}}
	p.same(t)
	return p
}

// same: do the calls that change nothing tell what they should?
func (p pair) same(t *testing.T) {
	t.Helper()
	w := p.plain
	p.counts(t, len(w.added), w.acked, w.window.Frames(), len(w.kept()), w.asks.Len(), w.bad)
	if p.Peer() != w.peer {
		t.Fatalf("Peer: %+v, not %+v", p.Peer(), w.peer)
	}
}

// counts: are these what the end tells?
func (p pair) counts(t *testing.T, sent, acked, came, kept, waiting, bad int) {
	t.Helper()
	if p.Sent() != sent || p.Acked() != acked || p.Came() != came || p.Kept() != kept || p.Waiting() != waiting || p.Bad() != bad {
		t.Fatalf("Sent %d, Acked %d, Came %d, Kept %d, Waiting %d, Bad %d, not %d, %d, %d, %d, %d, %d",
			p.Sent(), p.Acked(), p.Came(), p.Kept(), p.Waiting(), p.Bad(), sent, acked, came, kept, waiting, bad)
	}
	if p.Full() != (kept == 32) {
		t.Fatalf("Full: %t, of %d groups", p.Full(), kept)
	}
}

// alike: are two answers the same?
func alike(a, b []Out) bool {
	return slices.EqualFunc(a, b, func(a, b Out) bool {
		equal := bytes.Equal(a.Data.Data, b.Data.Data)
		x, y := a.Data, b.Data
		return equal && a.Rank == b.Rank && x.Kind == y.Kind && x.Session == y.Session && x.Seq == y.Seq && x.Path == y.Path && x.Tick == y.Tick &&
			x.A == y.A && x.B == y.B && x.K == y.K && x.M == y.M && x.Index == y.Index
	})
}

// owned: is what goes as it should be, and may it be? A copy; what was answered is changed behind it.
func owned(t *testing.T, got, want []Out) []Out {
	t.Helper()
	if !alike(got, want) {
		t.Fatalf("%+v, not %+v", got, want)
	}
	out := slices.Clone(got)
	for i, o := range got {
		if e := wire.Check(o.Data); e != api.OK {
			t.Fatalf("%+v may not be: %d", o, e)
		}
		out[i].Data.Data = bytes.Clone(o.Data.Data)
	}
	for i := range got {
		spoil(got[i].Data.Data[:cap(got[i].Data.Data)])
		got[i].Rank, got[i].Data.Kind = 77, 77
	}
	return out
}

// spoil: changes all bytes.
func spoil(data []byte) {
	for i := range data {
		data[i] ^= 0x55
	}
}

// Each of these does the same to both, and asks what came of it.

func (p pair) add(t *testing.T, in api.Input) ([]Out, api.Errno) {
	t.Helper()
	got, e := p.Add(in)
	want, wantE := p.plain.add(in)
	if e != wantE {
		t.Fatalf("Add(%d): %d, not %d", in, e, wantE)
	}
	out := owned(t, got, want)
	p.same(t)
	return out, e
}

func (p pair) tick(t *testing.T, told wire.Quality, wait int) []Out {
	t.Helper()
	got := p.Tick(told, wait)
	out := owned(t, got, p.plain.tick(told, wait))
	p.same(t)
	return out
}

func (p pair) take(t *testing.T, d api.Datagram) ([]Out, api.Errno) {
	t.Helper()
	room := append(bytes.Clone(d.Data), 77, 78)
	handed := bytes.Clone(room)
	d.Data = handed[:len(d.Data)]
	got, e := p.Take(d)
	want, wantE := p.plain.take(d)
	if e != wantE {
		t.Fatalf("Take(%+v): %d, not %d", d, e, wantE)
	}
	if !bytes.Equal(handed, room) {
		t.Fatalf("Take has changed %v to %v", room, handed)
	}
	spoil(handed)
	out := owned(t, got, want)
	p.same(t)
	return out, e
}

func (p pair) ready(t *testing.T) []api.Input {
	t.Helper()
	got := p.Ready()
	if want := p.plain.window.Ready(); !slices.Equal(got, want) {
		t.Fatalf("Ready: %v, not %v", got, want)
	}
	out := slices.Clone(got)
	got = got[:cap(got)]
	for i := range got {
		got[i] ^= 0x5555
	}
	p.same(t)
	return out
}

// ack: one that goes.
func ack(came, heard uint32, told ...byte) Out {
	return Out{1, api.Datagram{Kind: api.KindAck, A: came, B: heard, Data: told}}
}

// ask: a question that goes.
func ask(no uint32, numbers ...byte) Out {
	return Out{1, api.Datagram{Kind: api.KindNack, A: no, Data: numbers}}
}

// piece: a data shard that goes, or one of parity.
func piece(rank int, no, first uint32, k, m, i int, data ...byte) Out {
	kind := api.KindData
	if i >= k {
		kind = api.KindParity
	}
	return Out{rank, api.Datagram{Kind: kind, A: no, B: first, K: k, M: m, Index: i, Data: data}}
}
