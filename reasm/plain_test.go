package reasm

import (
	"slices"
	"testing"

	"backstay/api"
	"backstay/gf"
	"backstay/group"
	"backstay/mixed"
	"backstay/poly"
)

var field = gf.New()

// plain is what a window should be: it keeps all shards that came, of all groups, and all inputs that were told.
type plain struct {
	base            uint32
	came            map[uint32][]api.Datagram
	told            []api.Input
	shown           int // of these, by Ready
	doubles, mended int
}

// ahead: how far a group is ahead of the first one that is open.
func (p *plain) ahead(no uint32) int { return int(int32(no - p.base)) }

// whole: did enough of a group come?
func (p *plain) whole(no uint32) bool {
	list := p.came[no]
	return len(list) > 0 && len(list) == list[0].K
}

// has: did a shard of that number come of a group?
func (p *plain) has(no uint32, i int) bool {
	return slices.ContainsFunc(p.came[no], func(d api.Datagram) bool { return d.Index == i })
}

// take: what Take should answer.
func (p *plain) take(d api.Datagram) api.Errno {
	list := p.came[d.A]
	switch {
	case d.Kind != 2 && d.Kind != 3:
		return api.ErrKind
	case d.K < 1 || d.K > 16 || d.M < 0 || d.M > 16 || d.Index < 0 || d.Index > d.K+d.M-1:
		return api.ErrIndex
	case len(d.Data) != 2:
		return api.ErrLength
	case p.ahead(d.A) < 0:
		return api.ErrOld
	case p.ahead(d.A) > 31:
		return api.ErrLong
	case len(list) > 0 && (list[0].B != d.B || list[0].K != d.K || list[0].M != d.M):
		return api.ErrGroup
	case p.whole(d.A) || p.has(d.A, d.Index):
		p.doubles++
		return api.ErrTwice
	}
	d.Data = slices.Clone(d.Data)
	p.came[d.A] = append(list, d)
	if p.whole(d.A) && slices.ContainsFunc(p.came[d.A], func(d api.Datagram) bool { return d.Index >= d.K }) {
		p.mended++
	}
	for p.whole(p.base) && int(p.came[p.base][0].B) == len(p.told) {
		p.told = append(p.told, inputs(p.came[p.base])...)
		p.base++
	}
	return api.OK
}

// inputs: of k shards: at each of both places the values of the one polynomial that goes through them.
func inputs(list []api.Datagram) []api.Input {
	out := make([]api.Input, list[0].K)
	for at := range 2 {
		var points []poly.Point
		for _, d := range list {
			points = append(points, poly.Point{X: byte(d.Index), Y: d.Data[at]})
		}
		line, _ := poly.Through(field, points...)
		for i := range out {
			out[i] = out[i]<<8 | api.Input(poly.Eval(field, line, byte(i)))
		}
	}
	return out
}

// ready: what Ready should answer.
func (p *plain) ready() []api.Input {
	list := p.told[p.shown:]
	p.shown = len(p.told)
	return list
}

// missing: what Missing should answer.
func (p *plain) missing(no uint32) ([]byte, int) {
	if !p.open(no) || len(p.came[no]) == 0 {
		return nil, 0
	}
	k := p.came[no][0].K
	var list []byte
	for i := range k {
		if !p.has(no, i) {
			list = append(list, byte(i))
		}
	}
	return list, k - len(p.came[no])
}

// open: what Open should answer.
func (p *plain) open(no uint32) bool {
	return p.ahead(no) >= 0 && p.ahead(no) < 32 && !p.whole(no)
}

// top: what Top should answer.
func (p *plain) top() uint32 {
	for ahead := uint32(32); ahead > 0; ahead-- {
		if len(p.came[p.base+ahead-1]) > 0 {
			return p.base + ahead
		}
	}
	return p.base
}

// pair is a window, and what it should be.
type pair struct {
	*Window
	plain *plain
}

// begun: both, as they begin.
func begun(t *testing.T) pair {
	t.Helper()
	p := pair{New(field), &plain{came: map[uint32][]api.Datagram{}}}
	p.asked(t)
	return p
}

// from: both have some Base, as if so many groups without inputs had been told.
func (p pair) from(base uint32) pair {
	p.Window.base, p.plain.base = base, base
	return p
}

// asked: do the calls that change nothing tell what they should?
func (p pair) asked(t *testing.T) {
	t.Helper()
	w := p.plain
	if p.Base() != w.base || p.Frames() != len(w.told) || p.Doubles() != w.doubles || p.Mended() != w.mended || p.Top() != w.top() {
		t.Fatalf("Base %d, %d frames, %d doubles, %d mended, Top %d, not %d, %d, %d, %d, %d",
			p.Base(), p.Frames(), p.Doubles(), p.Mended(), p.Top(), w.base, len(w.told), w.doubles, w.mended, w.top())
	}
	for ahead := -2; ahead < 35; ahead++ {
		p.group(t, w.base+uint32(ahead))
	}
	for _, ahead := range []uint32{64, 1 << 16, 1<<31 - 1, 1 << 31, 1<<31 + 1, 1<<32 - 32} {
		p.group(t, w.base+ahead)
	}
}

// group: do Missing and Open tell what they should, of a group?
func (p pair) group(t *testing.T, no uint32) {
	t.Helper()
	list, need := p.Missing(no)
	if want, wantNeed := p.plain.missing(no); !slices.Equal(list, want) || need != wantNeed {
		t.Fatalf("Missing(%d): %v, %d, not %v, %d", no, list, need, want, wantNeed)
	}
	if p.Open(no) != p.plain.open(no) {
		t.Fatalf("Open(%d): %t", no, p.Open(no))
	}
}

// take: the same of both; a shard that is handed in is changed behind the call.
func (p pair) take(t *testing.T, d api.Datagram) api.Errno {
	t.Helper()
	room := append(slices.Clone(d.Data), 77, 78)
	handed := slices.Clone(room)
	d.Data = handed[:len(d.Data)]
	got, want := p.Take(d), p.plain.take(d)
	if got != want {
		t.Fatalf("Take(%+v): %d, not %d", d, got, want)
	}
	if !slices.Equal(handed, room) {
		t.Fatalf("Take has changed %v to %v", room, handed)
	}
	for i := range handed {
		handed[i] ^= 0x55
	}
	p.asked(t)
	return got
}

// ready: the same of both; what is answered is changed behind the call.
func (p pair) ready(t *testing.T) []api.Input {
	t.Helper()
	got, want := p.Ready(), p.plain.ready()
	if !slices.Equal(got, want) {
		t.Fatalf("Ready: %v, not %v", got, want)
	}
	out := slices.Clone(got)
	got = got[:cap(got)]
	for i := range got {
		got[i] ^= 0x5555
	}
	p.asked(t)
	return out
}

// some: so many inputs, others for each seed.
func some(seed, count int) []api.Input {
	data := mixed.Bytes(seed, 2*count)
	list := make([]api.Input, count)
	for i := range list {
		list[i] = api.Input(data[2*i])<<8 | api.Input(data[2*i+1])
	}
	return list
}

// made: the datagrams of all shards of a group that there is.
func made(t *testing.T, no, first uint32, m int, inputs ...api.Input) []api.Datagram {
	t.Helper()
	g, e := group.Make(field, no, first, m, inputs...)
	if e != api.OK {
		t.Fatalf("Make of %d inputs, %d parity shards: %d", len(inputs), m, e)
	}
	var list []api.Datagram
	for _, d := range g.All() {
		list = append(list, d)
	}
	return list
}
