package xport

import (
	"slices"
	"testing"

	"backstay/api"
	"backstay/mixed"
	"backstay/wire"
)

// meeting is two ends, what was added at each and came from each, and what is on its way to each.
type meeting struct {
	ends   [2]pair
	added  [2][]api.Input
	came   [2][]api.Input // at the end of that number
	flying [2][]api.Datagram
	now    uint32
	by     []byte // says what is blown where
}

// tick: at both ends; what they tell goes.
func (m *meeting) tick(t *testing.T, loss, wait int) {
	t.Helper()
	m.now++
	for i, p := range m.ends {
		m.send(i, p.tick(t, wire.Quality{Ahead: i, Loss: loss}, wait)...)
	}
}

// send: what an end tells goes to the other one.
func (m *meeting) send(from int, list ...Out) {
	for _, o := range list {
		o.Data.Tick = m.now
		m.flying[1-from] = append(m.flying[1-from], o.Data)
	}
}

// add: an input at an end, if it takes one.
func (m *meeting) add(t *testing.T, i int, in api.Input) {
	t.Helper()
	full := m.ends[i].Full()
	out, e := m.ends[i].add(t, in)
	if (e == api.ErrLong) != full {
		t.Fatalf("Add: %d, Full is %t", e, full)
	}
	if e == api.OK {
		m.added[i] = append(m.added[i], in)
		m.send(i, out...)
	}
}

// arrive: one comes at an end; P20.5 holds behind it.
func (m *meeting) arrive(t *testing.T, i int, d api.Datagram) {
	t.Helper()
	out, _ := m.ends[i].take(t, d)
	m.send(i, out...)
	m.came[i] = append(m.came[i], m.ends[i].ready(t)...)
	if n := m.ends[i].Came(); n > len(m.added[1-i]) || !slices.Equal(m.came[i], m.added[1-i][:n]) {
		t.Fatalf("at %d came %v, %d of %v", i, m.came[i], n, m.added[1-i])
	}
	for i, p := range m.ends {
		if p.Acked() > m.ends[1-i].Came() {
			t.Fatalf("%d are Acked at %d, %d came", p.Acked(), i, m.ends[1-i].Came())
		}
	}
}

// blow: of what is on its way some get lost, some come, some come and stay, most of them not in order; by three bytes for each.
func (m *meeting) blow(t *testing.T, lost int) {
	t.Helper()
	for i := range m.ends {
		for n := len(m.flying[i]); n > 0 && len(m.flying[i]) > 0; n-- {
			by := m.by[:3]
			m.by = m.by[3:]
			at := int(by[0]) % len(m.flying[i])
			d := m.flying[i][at]
			if by[1]%8 > 0 {
				m.flying[i] = slices.Delete(m.flying[i], at, at+1)
			}
			if int(by[2]) >= lost {
				m.arrive(t, i, d)
			}
		}
	}
}

// calm: all that is on its way comes, the last one first or the first one first.
func (m *meeting) calm(t *testing.T, back bool) {
	t.Helper()
	for i := range m.ends {
		list := m.flying[i]
		m.flying[i] = nil
		if back {
			slices.Reverse(list)
		}
		for _, d := range list {
			m.arrive(t, i, d)
		}
	}
}

// done: did all inputs come that are in groups, and are they Acked?
func (m *meeting) done() bool {
	for i, p := range m.ends {
		n := p.plain.grouped()
		if m.ends[1-i].Came() != n || p.Acked() != n || p.Kept() > 0 {
			return false
		}
	}
	return true
}

// TestLossy: P20.5, P20.6: much gets lost, comes twice, late, and in another order, and at last all comes that goes.
func TestLossy(t *testing.T) {
	for _, lost := range []int{0, 30, 128, 200, 250} {
		for seed := range 12 {
			size, wait := 1+seed*5%16, 1+seed%7
			m := &meeting{ends: [2]pair{made(t, size, 1+seed%9, seed%5), made(t, 1+seed%4, 20, 16)}, by: mixed.Bytes(seed*7+lost, 1<<18)}
			for step, by := range mixed.Bytes(seed+lost, 250) {
				if by%4 > 0 {
					m.add(t, 0, api.Input(step*263))
				}
				if by%7 > 0 {
					m.add(t, 1, api.Input(step*517))
				}
				m.tick(t, lost*256, wait)
				m.blow(t, lost)
			}
			if lost < 100 && (m.ends[0].Came() == 0 || m.ends[1].Came() == 0) {
				t.Fatalf("lost %d, seed %d: nothing came ahead of the calm", lost, seed)
			}
			// What was on its way gets lost, so that only what goes from now on comes.
			m.flying = [2][]api.Datagram{}
			ticks := 0
			for ; !m.done() || ticks < 30; ticks++ {
				if ticks == 400 {
					t.Fatalf("lost %d, seed %d: not all came: %d of %d, %d of %d", lost, seed, m.ends[1].Came(), m.ends[0].Sent(), m.ends[0].Came(), m.ends[1].Sent())
				}
				m.tick(t, 0, wait)
				m.calm(t, seed%2 == 0)
			}
			for i, p := range m.ends {
				p.counts(t, len(m.added[i]), p.plain.grouped(), m.ends[1-i].plain.grouped(), 0, 0, p.plain.bad)
			}
		}
	}
}

// TestOneWay: P20.6: all that goes to one end gets lost for long, so that as many groups are kept as may be; then all comes.
func TestOneWay(t *testing.T) {
	for _, wait := range []int{1, 3, 40} {
		for size := 1; size <= 16; size += 5 {
			m := &meeting{ends: [2]pair{made(t, size, 99, 2), made(t, 1, 1, 0)}}
			for step := range 700 {
				m.add(t, 0, api.Input(step))
				m.tick(t, 0, wait)
				m.flying[1] = nil
			}
			if !m.ends[0].Full() || m.ends[0].Sent() != 32*size {
				t.Fatalf("size %d: %d are kept, of %d inputs", size, m.ends[0].Kept(), m.ends[0].Sent())
			}
			for ticks := 0; !m.done(); ticks++ {
				if ticks == 6*wait+200 {
					t.Fatalf("size %d, wait %d: %d came of %d", size, wait, m.ends[1].Came(), m.ends[0].Sent())
				}
				m.tick(t, 0, wait)
				m.calm(t, false)
			}
			m.add(t, 0, 9)
		}
	}
}

// TestRows: each row of five acts of nine is the same at both, an end and its account.
func TestRows(t *testing.T) {
	half, whole := come(t, 0, 0, 1, 5, 6), come(t, 1, 2, 0, 7)
	question := ask(0, 0, 2).Data
	question.Tick = 8
	acts := []func(p pair){
		func(p pair) { p.add(t, 300) },
		func(p pair) { p.tick(t, good, 1) },
		func(p pair) { p.tick(t, good, 2) },
		func(p pair) { p.take(t, half[2]) },
		func(p pair) { p.take(t, half[0]) },
		func(p pair) { p.take(t, whole[0]) },
		func(p pair) { p.take(t, question) },
		func(p pair) { p.take(t, tells(1, 20000)) },
		func(p pair) { p.take(t, tells(2, 0)) },
	}
	for row := range 9 * 9 * 9 * 9 * 9 {
		p := made(t, 2, 2, 1)
		for step, rest := 0, row; step < 5; step, rest = step+1, rest/9 {
			acts[rest%9](p)
		}
	}
}

// wild: a datagram that fits an end, or not, by twelve bytes of any values.
func (p pair) wild(by []byte) api.Datagram {
	d := api.Datagram{Kind: 2 + int(by[0]%4), Tick: uint32(by[1]), Session: uint32(by[2]), Seq: uint32(by[3]), Path: int(by[4])}
	switch d.Kind {
	case api.KindData, api.KindParity:
		d.A, d.B, d.Data = uint32(p.plain.window.Base())+uint32(by[5]%4), uint32(p.Came())+uint32(by[5]%4), by[6:8]
		d.K, d.M = 1+int(by[8]%2), int(by[9]%3)
		d.Index = int(by[10]) % (d.K + d.M)
	case api.KindNack:
		d.A, d.Data = uint32(len(p.plain.groups))-uint32(by[5]%40), by[6:6+by[7]%6]
	case api.KindAck:
		d.A, d.Data = uint32(p.Acked())+uint32(by[5]%8), by[6:10]
	}
	switch by[11] {
	case 0:
		d.Kind = int(by[8]) - 3
	case 1:
		d.A = uint32(by[8]) << 24
	case 2:
		d.A -= uint32(by[8])
	case 3:
		d.A += uint32(by[8])
	case 4:
		d.K = int(by[8]) - 3
	case 5:
		d.Index = int(by[8]) - 3
	case 6:
		d.Data = by[:by[8]%12]
	case 7:
		d.M = int(by[8]) - 3
	}
	return d
}

// TestMany: P1: long rows of calls of all kinds, mixed, whatever comes.
func TestMany(t *testing.T) {
	for seed := range 80 {
		p := made(t, 1+seed*3%16, 1+seed%5, seed%17)
		for by := mixed.Bytes(seed, 13*400); len(by) > 0; by = by[13:] {
			told := wire.Quality{Ahead: int(by[1]) - 128, Loss: int(by[2]) << 8}
			switch by[12] % 12 {
			case 0, 1, 2:
				p.add(t, api.Input(by[1])<<8|api.Input(by[2]))
			case 3, 4, 5:
				p.tick(t, told, int(by[3]%9))
			case 6:
				p.tick(t, told, edges[int(by[3])%len(edges)])
			case 7:
				p.ready(t)
			default:
				p.take(t, p.wild(by))
			}
		}
	}
}

// TestEnds: P1: whatever numbers stand in a datagram, and whatever is told.
func TestEnds(t *testing.T) {
	p := made(t, 2, 3, 1)
	for _, n := range edges {
		for _, k := range edges {
			for kind := 2; kind <= 5; kind++ {
				p.take(t, api.Datagram{Kind: kind, A: uint32(n), B: uint32(k), K: k, M: n, Index: k, Tick: uint32(n), Data: []byte{byte(n), byte(k)}})
			}
		}
		for _, size := range []int{0, 1, 3, 4, 5, 16, 33, 1200, 65536} {
			for kind := 0; kind <= 9; kind++ {
				p.take(t, api.Datagram{Kind: kind, K: 2, M: 2, Index: 1, Data: mixed.Bytes(n, size)})
			}
		}
		p.add(t, api.Input(n))
		p.tick(t, wire.Quality{Ahead: n, Loss: n}, n)
	}
}

// TestApart: P2: ends have nothing in common, and what one answers is its user's own.
func TestApart(t *testing.T) {
	a, b := made(t, 1, 1, 0), made(t, 1, 1, 0)
	first, _ := a.Add(258)
	a.plain.add(258)
	b.same(t)
	first[0].Data.Data[0] = 9
	_ = append(first[0].Data.Data, 8)
	_ = append(first, Out{})
	want := piece(1, 0, 0, 1, 0, 0, 1, 2)
	for range 2 {
		again, e := a.take(t, ask(0, 0).Data)
		if e != api.OK || !alike(again, []Out{want}) {
			t.Fatalf("%+v, %d", again, e)
		}
	}
	if first[0].Data.Data[0] != 9 {
		t.Errorf("what was answered is %+v now", first)
	}
	b.all(t, want.Data)
	a.goes(t, 1, want)
	b.goes(t, 1, ack(1, 0, even...))
	a.same(t)
	if got := b.Ready(); !slices.Equal(got, []api.Input{258}) || len(a.Ready()) > 0 {
		t.Errorf("Ready: %v", got)
	}
	twice := a.Tick(good, 1)
	a.plain.tick(good, 1)
	spoil(twice[0].Data.Data)
	a.goes(t, 1, want)
}
