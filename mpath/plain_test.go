package mpath

import (
	"cmp"
	"fmt"
	"math"
	"slices"
	"testing"

	"backstay/api"
	"backstay/pacer"
	"backstay/path"
	"backstay/told"
	"backstay/wire"
)

// ranked is a rank and its datagram.
type ranked = told.Pair[int, api.Datagram]

// plain is what a sender should be: it sorts what waits anew at each push, and keeps bytes and ticks as numbers.
type plain struct {
	session           uint32
	rate, burst, room int
	ways              [2]path.Path
	held              int // bytes that may go
	spent, full       int64
	ticks             int64
	items             []ranked // in the order in which they go
	dropped, stopped  int
}

// choose: what Choose should tell, by all that may be of two ways.
func (p *plain) choose(rank int) []int {
	best, other := 0, 1
	if a, b := p.state(0), p.state(1); b < a || b == a && p.ways[1].Score() > p.ways[0].Score() {
		best, other = 1, 0
	}
	bad := p.ways[best].Loss > 6552 || p.ways[best].Quiet >= 20
	if rank > 1 || rank == 1 && !bad || p.state(other) == 2 && p.state(best) < 2 {
		return []int{best}
	}
	return []int{best, other}
}

// state: of a way, by how long it is quiet.
func (p *plain) state(i int) int {
	if p.ways[i].Quiet < 20 {
		return 0
	}
	if p.ways[i].Quiet < 60 {
		return 1
	}
	return 2
}

// push: what Push should tell.
func (p *plain) push(rank int, d api.Datagram) api.Errno {
	d.Session, d.Path = p.session, 0
	if e := wire.Check(d); e != api.OK {
		return e
	}
	d.Data = slices.Clone(d.Data)
	p.items = append(slices.Clone(p.items), ranked{Key: rank, Value: d})
	slices.SortStableFunc(p.items, func(a, b ranked) int { return cmp.Compare(a.Key, b.Key) })
	if len(p.items) > p.room {
		p.items = p.items[:p.room]
		p.dropped++
	}
	return api.OK
}

// take: may so many bytes go? They do, then.
func (p *plain) take(size int) bool {
	if size > p.held {
		return false
	}
	p.held -= size
	p.spent += int64(size)
	return true
}

// goes: a datagram that goes by a way.
func (p *plain) goes(i int, d api.Datagram) Sent {
	d.Session, d.Path, d.Tick, d.Seq = p.session, i, uint32(p.ticks%(1<<32)), p.ways[i].Next
	p.ways[i].Next++
	return Sent{i, d}
}

// tick: what Tick should tell.
func (p *plain) tick() []Sent {
	p.ticks++
	p.held += p.rate
	if over := p.held - p.burst; over > 0 {
		p.held, p.full = p.burst, p.full+int64(over)
	}
	var out []Sent
	for i := range 2 {
		if p.ways[i].Tick() && p.take(33) {
			out = append(out, p.goes(i, api.Datagram{Kind: 7}))
		}
	}
	return out
}

// flush: what Flush should tell.
func (p *plain) flush() []Sent {
	var out []Sent
	for len(p.items) > 0 {
		one := p.items[0]
		ways, size := p.choose(one.Key), 33+len(one.Value.Data)
		if p.held < 2*size {
			ways = ways[:1]
		}
		if !p.take(size * len(ways)) {
			p.stopped++
			break
		}
		p.items = p.items[1:]
		for _, i := range ways {
			out = append(out, p.goes(i, one.Value))
		}
	}
	return out
}

// forget: what Forget should tell.
func (p *plain) forget(which func(api.Datagram) bool) int {
	var stay []ranked
	for _, one := range p.items {
		if !which(one.Value) {
			stay = append(stay, one)
		}
	}
	gone := len(p.items) - len(stay)
	p.items = stay
	return gone
}

// trip: what Trip should do.
func (p *plain) trip(i int, then uint32) {
	for ticks := range 2001 {
		if (i == 0 || i == 1) && uint32((p.ticks+1<<32-int64(ticks))%(1<<32)) == then {
			p.ways[i].Trip(ticks)
		}
	}
}

// pair is a sender, and what it should be.
type pair struct {
	*Sender
	plain *plain
}

// made: both, as they begin.
func made(t *testing.T, session uint32, rate, burst, room int) pair {
	t.Helper()
	s, e := New(session, rate, burst, room)
	if e != api.OK || s == nil {
		t.Fatalf("New(%d, %d, %d, %d): %d", session, rate, burst, room, e)
	}
	p := pair{s, &plain{session: session, rate: rate, burst: burst, room: room, held: burst}}
	p.asked(t)
	return p
}

// at: both have some time, as if so many ticks had gone by.
func (p pair) at(ticks int64) pair {
	p.Sender.now, p.plain.ticks = uint32(ticks), ticks
	return p
}

// like: the ways of both are these.
func (p pair) like(ways ...path.Path) pair {
	for i, w := range ways {
		p.Ways[i], p.plain.ways[i] = w, w
	}
	return p
}

// text: as text empty bytes are the same as none.
func text(v any) string { return fmt.Sprintf("%+v", v) }

// asked: do the calls that change nothing tell what they should?
func (p pair) asked(t *testing.T) {
	t.Helper()
	w := p.plain
	if p.Waiting() != len(w.items) || p.Dropped() != w.dropped || p.Held() != w.stopped || p.Now() != uint32(w.ticks%(1<<32)) {
		t.Fatalf("%d wait, %d dropped, %d held, at %d, not %+v", p.Waiting(), p.Dropped(), p.Held(), p.Now(), *w)
	}
	if got, want := p.Bucket(), (pacer.Bucket{Rate: w.rate, Burst: w.burst, Held: w.held, Spent: w.spent, Full: w.full}); got != want {
		t.Fatalf("Bucket: %+v, not %+v", got, want)
	}
	for _, rank := range []int{math.MinInt, -1, 0, 1, 2, 3, 4, math.MaxInt} {
		if got, want := p.Choose(rank), w.choose(rank); !slices.Equal(got, want) {
			t.Fatalf("Choose(%d) of %+v: %v, not %v", rank, p.Ways, got, want)
		}
	}
	if p.Ways != w.ways {
		t.Fatalf("ways %+v, not %+v", p.Ways, w.ways)
	}
}

// Each of these does the same to both, and asks what came of it.

func (p pair) push(t *testing.T, rank int, d api.Datagram) {
	t.Helper()
	if got, want := p.Push(rank, d), p.plain.push(rank, d); got != want {
		t.Fatalf("Push(%d, %+v): %d, not %d", rank, d, got, want)
	}
	p.asked(t)
}

func (p pair) tick(t *testing.T) []Sent {
	t.Helper()
	return p.went(t, "Tick", p.Tick(), p.plain.tick())
}

func (p pair) flush(t *testing.T) []Sent {
	t.Helper()
	return p.went(t, "Flush", p.Flush(), p.plain.flush())
}

// went: is what goes what should?
func (p pair) went(t *testing.T, call string, got, want []Sent) []Sent {
	t.Helper()
	if text(got) != text(want) {
		t.Fatalf("%s at %d: %+v, not %+v", call, p.plain.ticks, got, want)
	}
	p.asked(t)
	return got
}

func (p pair) forget(t *testing.T, which func(api.Datagram) bool) {
	t.Helper()
	if got, want := p.Forget(which), p.plain.forget(which); got != want {
		t.Fatalf("Forget: %d, not %d", got, want)
	}
	p.asked(t)
}

func (p pair) heard(t *testing.T, i int, n uint32) {
	t.Helper()
	want := api.ErrIndex
	if i == 0 || i == 1 {
		want = p.plain.ways[i].Heard(n)
	}
	if got := p.Heard(i, n); got != want {
		t.Fatalf("Heard(%d, %d): %d, not %d", i, n, got, want)
	}
	p.asked(t)
}

func (p pair) trip(t *testing.T, i int, then uint32) {
	t.Helper()
	p.Trip(i, then)
	p.plain.trip(i, then)
	p.asked(t)
}
