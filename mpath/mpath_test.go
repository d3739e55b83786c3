package mpath

import (
	"bytes"
	"math"
	"slices"
	"strings"
	"testing"

	"backstay/api"
	"backstay/mixed"
	"backstay/path"
	"backstay/stats"
	"backstay/wire"
)

var (
	keep     = api.Datagram{Kind: api.KindKeep}
	question = api.Datagram{Kind: api.KindSync, A: 5, B: 6}
)

// shard: a KindData of so many bytes of data.
func shard(n uint32, size int) api.Datagram {
	return api.Datagram{Kind: api.KindData, A: n, K: 1, Data: mixed.Bytes(int(n), size)}
}

// quiet: a way that is quiet for so many ticks, with so much loss.
func quiet(ticks, loss int) path.Path {
	return path.Path{Stats: stats.Stats{Loss: loss}, Quiet: ticks}
}

// seqs: of what goes, the way and the number, in order.
func seqs(list []Sent) [][2]int {
	var out [][2]int
	for _, one := range list {
		out = append(out, [2]int{one.Path, int(one.Data.Seq)})
	}
	return out
}

// The chapter's example, and the sixth one of the whole.
func TestExample(t *testing.T) {
	p := made(t, 1, 10, 66, 128)
	for range 3 {
		p.push(t, Usual, keep)
	}
	if got := seqs(p.flush(t)); !slices.Equal(got, [][2]int{{0, 0}, {0, 1}}) || p.Waiting() != 1 || p.Held() != 1 {
		t.Errorf("at once: %v, %d wait, held %d times", got, p.Waiting(), p.Held())
	}
	for n := 1; n <= 4; n++ {
		p.tick(t)
		want := [][2]int(nil)
		if n == 4 {
			want = [][2]int{{0, 2}}
		}
		if got := seqs(p.flush(t)); !slices.Equal(got, want) || p.Held() != min(n+1, 4) {
			t.Errorf("behind %d ticks: %v, held %d times", n, got, p.Held())
		}
	}
}

// The numbers that have names.
func TestNames(t *testing.T) {
	if Urgent != 0 || High != 1 || Usual != 2 || Low != 3 || DoubleLoss != 6553 {
		t.Errorf("%d, %d, %d, %d, %d", Urgent, High, Usual, Low, DoubleLoss)
	}
}

// P15.1: New's errors, with none; else all is as it begins.
func TestNew(t *testing.T) {
	const rate, burst, room = 1 << 20, 1 << 24, 256
	for _, c := range []struct {
		rate, burst, room int
		want              api.Errno
	}{
		{1, 1, 1, api.OK}, {rate, burst, room, api.OK}, {rate, 1, 128, api.OK}, {1, burst, room, api.OK},
		{0, 1, 1, api.ErrRange}, {-1, 1, 1, api.ErrRange}, {rate + 1, 1, 1, api.ErrRange}, {math.MinInt, 1, 1, api.ErrRange}, {math.MaxInt, 1, 1, api.ErrRange},
		{1, 0, 1, api.ErrRange}, {1, -1, 1, api.ErrRange}, {1, burst + 1, 1, api.ErrRange}, {1, math.MinInt, 1, api.ErrRange}, {1, math.MaxInt, 1, api.ErrRange},
		{1, 1, 0, api.ErrRange}, {1, 1, -1, api.ErrRange}, {1, 1, room + 1, api.ErrRange}, {1, 1, math.MinInt, api.ErrRange}, {1, 1, math.MaxInt, api.ErrRange},
		{0, 0, 0, api.ErrRange}, {0, 1, 0, api.ErrRange},
	} {
		s, e := New(7, c.rate, c.burst, c.room)
		if e != c.want || (s == nil) != (e != api.OK) {
			t.Errorf("New of %+v: %v, %d", c, s, e)
		}
		if e == api.OK {
			made(t, 7, c.rate, c.burst, c.room)
		}
	}
}

// P15.1: two senders have nothing in common, and the bucket that is told is a copy.
func TestApart(t *testing.T) {
	p, other := made(t, 1, 10, 100, 2), made(t, 1, 10, 100, 2)
	p.push(t, Low, keep)
	p.tick(t)
	p.flush(t)
	p.heard(t, 1, 9)
	other.asked(t)
	b := p.Bucket()
	b.Take(20)
	b.Change(1, 1)
	p.asked(t)
}

// P15.1, P15.4: the time goes up by one at each tick, going round.
func TestNow(t *testing.T) {
	for _, from := range []int64{0, 1<<31 - 2, 1<<32 - 2} {
		p := made(t, 1, 100, 1000, 8).at(from)
		for n := range int64(4) {
			if got := p.Now(); got != uint32(from+n) {
				t.Errorf("Now: %d, %d behind %d", got, n, from)
			}
			p.push(t, Usual, keep)
			if out := p.flush(t); len(out) != 1 || out[0].Data.Tick != uint32(from+n) {
				t.Errorf("%d behind %d goes %+v", n, from, out)
			}
			p.tick(t)
		}
	}
}

// P15.2: by hand.
func TestChooseNumbers(t *testing.T) {
	for i, c := range []struct {
		a, b path.Path
		want [4][]int // of the ranks 0 to 3
	}{
		{quiet(0, 0), quiet(0, 0), [4][]int{{0, 1}, {0}, {0}, {0}}},
		{quiet(0, 1), quiet(0, 0), [4][]int{{1, 0}, {1}, {1}, {1}}},
		{quiet(0, 9000), quiet(0, 0), [4][]int{{1, 0}, {1}, {1}, {1}}},
		{quiet(0, 6552), quiet(0, 6552), [4][]int{{0, 1}, {0}, {0}, {0}}},
		{quiet(0, 6553), quiet(0, 6553), [4][]int{{0, 1}, {0, 1}, {0}, {0}}},
		{quiet(0, 7000), quiet(0, 6600), [4][]int{{1, 0}, {1, 0}, {1}, {1}}},
		{quiet(0, 7000), quiet(20, 0), [4][]int{{0, 1}, {0, 1}, {0}, {0}}},
		{quiet(0, 7000), quiet(60, 0), [4][]int{{0}, {0}, {0}, {0}}},
		{quiet(60, 0), quiet(59, 0), [4][]int{{1}, {1}, {1}, {1}}},
		{quiet(19, 0), quiet(20, 0), [4][]int{{0, 1}, {0}, {0}, {0}}},
		{quiet(59, 0), quiet(20, 0), [4][]int{{0, 1}, {0, 1}, {0}, {0}}},
		{quiet(20, 0), quiet(19, 6552), [4][]int{{1, 0}, {1}, {1}, {1}}},
		{quiet(60, 0), quiet(90, 0), [4][]int{{0, 1}, {0, 1}, {0}, {0}}},
		{quiet(60, 9000), quiet(90, 0), [4][]int{{1, 0}, {1, 0}, {1}, {1}}},
	} {
		p := made(t, 1, 1, 1, 1).like(c.a, c.b)
		for rank, want := range c.want {
			if got := p.Choose(rank); !slices.Equal(got, want) {
				t.Errorf("%d: Choose(%d): %v, not %v", i, rank, got, want)
			}
		}
		p.asked(t)
	}
}

// P15.2: all pairs of ways at the edges, and ranks of all kinds; what is answered is new.
func TestChoose(t *testing.T) {
	var ways []path.Path
	for _, ticks := range []int{0, 19, 20, 59, 60, 1 << 30} {
		for _, loss := range []int{0, 6552, 6553, 6554, 65535} {
			for _, rtt := range []int{0, 8, 2000} {
				w := quiet(ticks, loss)
				w.Rtt = rtt
				ways = append(ways, w)
			}
		}
	}
	p := made(t, 1, 1, 1, 1)
	for _, a := range ways {
		for _, b := range ways {
			p.like(a, b).asked(t)
		}
	}
	list := p.Choose(Urgent)
	list[0] = 7
	_ = append(list[:1], 8, 9)
	p.asked(t)
}

// P15.3: Check's error, and nothing waits; Session and Path are the sender's, whatever d has.
func TestPush(t *testing.T) {
	p := made(t, 9, 100, 10000, 100)
	for _, d := range []api.Datagram{
		keep, question, shard(1, 1), shard(2, 1200), {Kind: api.KindQuit, A: 3}, {Kind: api.KindNack, A: 1, Data: []byte{0, 31}}, {Kind: api.KindAck, A: 1, B: 2, Data: []byte{1, 2, 3, 4}},
		{Kind: api.KindCheck, A: 8, B: 77}, {Kind: api.KindParity, K: 2, M: 1, Index: 2, Data: []byte{7}}, {Kind: api.KindKeep, Session: 5, Seq: 6, Tick: 7, Path: 1},
		{}, {Kind: -1}, {Kind: 9}, {Kind: math.MaxInt}, {Kind: 9, Path: 7}, {Kind: api.KindKeep, A: 1}, {Kind: api.KindKeep, Data: []byte{1}}, {Kind: api.KindAck}, {Kind: api.KindNack, Data: []byte{3, 3}},
		{Kind: api.KindQuit, B: 1}, {Kind: api.KindSync, K: 1}, shard(3, 0), shard(4, 1201), {Kind: api.KindData, K: 1, Index: 1, Data: []byte{1}}, {Kind: api.KindData, K: 17, Data: []byte{1}},
	} {
		for _, where := range []int{d.Path, 1, 2, -1, math.MaxInt, math.MinInt} {
			d.Path = where
			bare := d
			bare.Path = 0
			waiting := p.Waiting()
			p.push(t, Usual, d)
			if refused := wire.Check(bare) != api.OK; refused != (p.Waiting() == waiting) {
				t.Errorf("Push(%+v): %d wait behind %d", d, p.Waiting(), waiting)
			}
		}
	}
	for _, one := range p.flush(t) {
		if d := one.Data; d.Session != 9 || d.Path != one.Path || d.Tick != 0 {
			t.Errorf("%+v goes", one)
		}
	}
}

// P15.3: without room the one goes that all others come ahead of, and is counted; which, is told by what is left.
func TestPushFull(t *testing.T) {
	for _, c := range []struct {
		ranks []int
		left  string
		lost  int
	}{
		{[]int{2, 2}, "ab", 0}, {[]int{2, 2, 2}, "ab", 1}, {[]int{2, 3, 2}, "ac", 1}, {[]int{2, 3, 4}, "ab", 1}, {[]int{3, 2, 1, 0}, "dc", 2}, {[]int{3, 3, 0}, "ca", 1},
		{[]int{math.MaxInt, math.MinInt, -1}, "bc", 1}, {[]int{-1, -2, -3}, "cb", 1}, {[]int{math.MaxInt, math.MaxInt - 1, 7}, "cb", 1}, {[]int{0, 0, 0, 0, 0}, "ab", 3},
	} {
		p := made(t, 1, 100, 1000, 2).like(quiet(0, 0), quiet(60, 0))
		for i, rank := range c.ranks {
			p.push(t, rank, api.Datagram{Kind: api.KindSync, A: uint32('a' + i)})
		}
		if p.Dropped() != c.lost || p.Waiting() != 2 {
			t.Errorf("of %v: %d dropped, %d wait", c.ranks, p.Dropped(), p.Waiting())
		}
		var left strings.Builder
		for _, one := range p.flush(t) {
			left.WriteByte(byte(one.Data.A))
		}
		if left.String() != c.left {
			t.Errorf("of %v %s is left", c.ranks, left.String())
		}
	}
}

// P15.3: what is refused isn't counted as dropped, though there is no room.
func TestPushRefused(t *testing.T) {
	p := made(t, 1, 100, 1000, 1)
	p.push(t, Low, keep)
	p.push(t, Urgent, api.Datagram{Kind: 9})
	p.push(t, Urgent, api.Datagram{Kind: api.KindKeep, A: 1})
	if p.Dropped() != 0 || p.Waiting() != 1 {
		t.Errorf("%d dropped, %d wait", p.Dropped(), p.Waiting())
	}
}

// P2, P15.3: it is a copy that waits, and each that goes has bytes of its own.
func TestBytes(t *testing.T) {
	p := made(t, 1, 1000, 10000, 8)
	list := make([]byte, 40, 80)
	copy(list, mixed.Bytes(3, 40))
	was := bytes.Clone(list)
	d := api.Datagram{Kind: api.KindData, K: 1, Data: list}
	p.push(t, Urgent, d)
	p.push(t, Usual, d)
	clear(list)
	out := p.flush(t)
	if len(out) != 3 {
		t.Fatalf("%d go", len(out))
	}
	for i := range out {
		if !bytes.Equal(out[i].Data.Data, was) {
			t.Errorf("%d: %v", i, out[i].Data.Data)
		}
		clear(out[i].Data.Data)
		_ = append(out[i].Data.Data, was...)
	}
	if !bytes.Equal(list[:80], make([]byte, 80)) {
		t.Errorf("what was handed in is %v", list)
	}
}

// P15.3: Forget: each choice of what goes, out of ranks of all kinds; what stays goes as it would have.
func TestForget(t *testing.T) {
	for _, ranks := range [][]int{{}, {1}, {2, 2, 2, 2}, {3, 1, 2, 1}, {0, -5, 0, -5, 7}} {
		for choice := range uint32(1) << len(ranks) {
			p := made(t, 1, 100, 1000, 5)
			for i, rank := range ranks {
				p.push(t, rank, api.Datagram{Kind: api.KindCheck, A: uint32(i)})
			}
			p.forget(t, func(d api.Datagram) bool { return choice>>d.A&1 == 1 })
			p.push(t, 1, keep)
			p.flush(t)
		}
	}
}

// P15.3: it is asked once of each that waits, and is shown it as it waits, in bytes of its own; what goes so isn't dropped.
func TestForgetAsks(t *testing.T) {
	p := made(t, 9, 100, 1000, 5)
	for i, d := range []api.Datagram{shard(1, 4), shard(2, 5), {Kind: api.KindNack, Session: 3, Path: 1, Data: []byte{1, 2}}} {
		p.push(t, 3-i, d)
	}
	var shown []string
	gone := p.Forget(func(d api.Datagram) bool {
		shown = append(shown, text(d))
		clear(d.Data)
		return false
	})
	var want []string
	for _, one := range p.plain.items {
		want = append(want, text(one.Value))
	}
	slices.Sort(shown)
	slices.Sort(want)
	if gone != 0 || !slices.Equal(shown, want) {
		t.Errorf("%d went, it is asked of %v, not of %v", gone, shown, want)
	}
	p.asked(t)
	p.forget(t, func(d api.Datagram) bool { return d.Kind == api.KindData && d.A == 2 })
	if p.Dropped() != 0 {
		t.Errorf("%d dropped", p.Dropped())
	}
	p.flush(t)
}

// P1: a question that panics, or none, isn't answered with yes.
func TestForgetNoAnswer(t *testing.T) {
	p := made(t, 1, 100, 1000, 5)
	if gone := p.Forget(nil); gone != 0 {
		t.Errorf("of nothing: %d", gone)
	}
	for i := range uint32(4) {
		p.push(t, Usual, api.Datagram{Kind: api.KindSync, A: i})
	}
	if gone := p.Forget(nil); gone != 0 {
		t.Errorf("of nil: %d", gone)
	}
	if gone := p.Forget(func(api.Datagram) bool { panic("no answer") }); gone != 0 {
		t.Errorf("of a panic: %d", gone)
	}
	p.asked(t)
	var none []bool
	if gone := p.Forget(func(d api.Datagram) bool { return d.A == 2 || none[0] }); gone != 1 {
		t.Errorf("of one answer: %d", gone)
	}
	p.plain.forget(func(d api.Datagram) bool { return d.A == 2 })
	p.asked(t)
	p.flush(t)
}

// P1: the question may call the sender itself.
func TestForgetCalls(t *testing.T) {
	for _, act := range []func(p pair){
		func(p pair) { p.Push(Urgent, keep) },
		func(p pair) { p.Flush() },
		func(p pair) { p.Tick() },
		func(p pair) { p.Forget(func(api.Datagram) bool { return true }) },
		func(p pair) { p.Heard(0, 1); p.Trip(0, 0); p.Choose(0) },
	} {
		p := made(t, 1, 10, 66, 4)
		for range 4 {
			p.Push(Low, question)
		}
		waited := 4
		gone := p.Forget(func(api.Datagram) bool { act(p); return true })
		if gone < 0 || gone > waited || p.Waiting() > 4 {
			t.Errorf("%d went, %d wait", gone, p.Waiting())
		}
	}
}

// P15.4: Tick by hand: ways that are quiet are tried, each if there are bytes for it, the first one first; that isn't Held.
func TestTick(t *testing.T) {
	for _, c := range []struct {
		rate, burst int
		want        map[int][][2]int // at which ticks what goes
	}{
		{33, 66, map[int][][2]int{20: {{0, 0}, {1, 0}}, 25: {{0, 1}, {1, 1}}, 35: {{0, 2}, {1, 2}}, 55: {{0, 3}, {1, 3}}, 95: {{0, 4}, {1, 4}}, 175: {{0, 5}, {1, 5}}}},
		{1, 65, map[int][][2]int{20: {{0, 0}}, 25: {{0, 1}}, 55: {{0, 2}}, 95: {{0, 3}}, 175: {{0, 4}}}}, // at 25 there are 37, at 35 14, at 55 34, at 95 41
		{1, 66, map[int][][2]int{20: {{0, 0}, {1, 0}}, 55: {{0, 1}}, 95: {{0, 2}}, 175: {{0, 3}, {1, 1}}}},
		{100, 33, map[int][][2]int{20: {{0, 0}}, 25: {{0, 1}}, 35: {{0, 2}}, 55: {{0, 3}}, 95: {{0, 4}}, 175: {{0, 5}}}},
		{100, 32, nil},
	} {
		p := made(t, 4, c.rate, c.burst, 3)
		for n := 1; n <= 200; n++ {
			out := p.tick(t)
			if got := seqs(out); !slices.Equal(got, c.want[n]) {
				t.Errorf("rate %d, burst %d: at %d %v goes, not %v", c.rate, c.burst, n, got, c.want[n])
			}
			for _, one := range out {
				d := one.Data
				if d.Kind != api.KindKeep || d.Session != 4 || d.Path != one.Path || d.Tick != uint32(n) || wire.Check(d) != api.OK {
					t.Errorf("at %d %+v goes", n, one)
				}
			}
		}
		if p.Held() != 0 || p.Waiting() != 0 {
			t.Errorf("held %d times, %d wait", p.Held(), p.Waiting())
		}
	}
}

// P15.4: the bytes of this tick are there when a way is tried in it; what waits doesn't go by Tick.
func TestTickBytes(t *testing.T) {
	p := made(t, 1, 33, 33, 3).like(quiet(19, 0), quiet(0, 0))
	p.push(t, Urgent, keep)
	p.push(t, Urgent, keep)
	if out := p.flush(t); len(out) != 1 || p.Bucket().Held != 0 {
		t.Fatalf("%+v goes", out)
	}
	if out := p.tick(t); len(out) != 1 || out[0].Path != 0 || p.Waiting() != 1 {
		t.Errorf("%+v goes, %d wait", out, p.Waiting())
	}
}

// P15.4: one way alone is tried, if only that one is quiet.
func TestTickOne(t *testing.T) {
	for i := range 2 {
		p := made(t, 1, 100, 1000, 3)
		count := 0
		for n := range uint32(100) {
			p.heard(t, 1-i, n)
			for _, one := range p.tick(t) {
				count++
				if one.Path != i {
					t.Errorf("%+v goes", one)
				}
			}
		}
		if count != 5 {
			t.Errorf("way %d is tried %d times", i, count)
		}
	}
}

// P15.4: how many ways one goes by, by how many bytes there are; Held counts each Flush that stops, once.
func TestFlushBytes(t *testing.T) {
	for _, size := range []int{1, 7, 1200} {
		one := 33 + size
		for _, c := range []struct {
			held, rank, count, left, stopped int
		}{
			{0, Urgent, 0, 0, 1}, {one - 1, Urgent, 0, one - 1, 1}, {one, Urgent, 1, 0, 0}, {one + 1, Urgent, 1, 1, 0}, {2*one - 1, Urgent, 1, one - 1, 0}, {2 * one, Urgent, 2, 0, 0}, {3 * one, Urgent, 2, one, 0},
			{one - 1, Usual, 0, one - 1, 1}, {one, Usual, 1, 0, 0}, {2 * one, Usual, 1, one, 0}, {2 * one, High, 1, one, 0}, {one - 1, High, 0, one - 1, 1}, {2 * one, -9, 2, 0, 0},
		} {
			p := made(t, 1, 1, 5000, 3)
			p.Sender.bucket.Take(5000 - c.held)
			p.plain.take(5000 - c.held)
			p.push(t, c.rank, shard(1, size))
			out := p.flush(t)
			if len(out) != c.count || p.Bucket().Held != c.left || p.Held() != c.stopped || (p.Waiting() == 1) != (c.count == 0) {
				t.Errorf("%d bytes, %+v: %d go, %d are left, held %d times", size, c, len(out), p.Bucket().Held, p.Held())
			}
			for i, one := range out {
				if one.Path != i {
					t.Errorf("%d goes by %d", i, one.Path)
				}
			}
			if p.flush(t); p.Held() != 2*c.stopped {
				t.Errorf("again: held %d times", p.Held())
			}
		}
	}
}

// P15.4: the first one that there are no bytes for is the end, though there are for others behind it; what is above the burst never goes.
func TestFlushStops(t *testing.T) {
	p := made(t, 1, 10, 100, 5)
	p.push(t, Low, keep)
	p.push(t, High, shard(1, 68))
	for n := range 50 {
		if out := p.flush(t); len(out) != 0 || p.Held() != n+1 || p.Waiting() != 2 {
			t.Fatalf("%+v goes, held %d times", out, p.Held())
		}
		p.tick(t)
		p.heard(t, 0, uint32(n))
		p.heard(t, 1, uint32(n))
	}
	p.forget(t, func(d api.Datagram) bool { return d.Kind == api.KindData })
	if out := p.flush(t); len(out) != 1 || out[0].Data.Kind != api.KindKeep || p.Held() != 50 {
		t.Errorf("%+v goes, held %d times", out, p.Held())
	}
	if out := p.flush(t); len(out) != 0 || p.Held() != 50 {
		t.Errorf("of nothing %+v goes, held %d times", out, p.Held())
	}
}

// P15.4: by which ways, at each kind of ways and ranks, and with the best one first.
func TestFlushWays(t *testing.T) {
	for _, a := range []path.Path{quiet(0, 0), quiet(0, 6553), quiet(20, 0), quiet(60, 0)} {
		for _, b := range []path.Path{quiet(0, 0), quiet(0, 9000), quiet(30, 0), quiet(70, 0)} {
			for rank := -1; rank <= 4; rank++ {
				for _, held := range []int{33, 66} {
					p := made(t, 1, 1, held, 3).like(a, b)
					p.push(t, rank, question)
					ways := p.Choose(rank)[:min(held/33, len(p.Choose(rank)))]
					var got []int
					for _, one := range p.flush(t) {
						got = append(got, one.Path)
					}
					if !slices.Equal(got, ways) {
						t.Errorf("rank %d, %d bytes: by %v, not by %v", rank, held, got, ways)
					}
				}
			}
		}
	}
}

// P15.7: what is more urgent goes first, of what is equally urgent what was pushed first; nothing that stays is more urgent than what goes.
func TestFlushOrder(t *testing.T) {
	for seed := range 100 {
		p := made(t, 1, 100, 200+seed*10, 64)
		ranks := mixed.Bytes(seed, 64)
		for i, b := range ranks {
			p.push(t, int(b)%6-1, api.Datagram{Kind: api.KindCheck, A: uint32(i)})
		}
		for p.Waiting() > 0 {
			last := -1
			for _, one := range p.flush(t) {
				at := int(ranks[one.Data.A])%6*64 + int(one.Data.A)
				if at < last || at == last && one.Path == 0 {
					t.Fatalf("%d goes behind %d", at, last)
				}
				last = at
			}
			p.Forget(func(d api.Datagram) bool {
				if at := int(ranks[d.A])%6*64 + int(d.A); at < last {
					t.Fatalf("%d stays, and %d goes", at, last)
				}
				return false
			})
			p.tick(t)
		}
	}
}

// P15.5: ErrIndex, and nothing changes; else what Heard of the way tells and does.
func TestHeard(t *testing.T) {
	for i := range 2 {
		p := made(t, 1, 10, 66, 3).like(quiet(70, 500), quiet(80, 600))
		for _, bad := range []int{-1, 2, 3, math.MinInt, math.MaxInt, 1 << 32, 1<<32 + 1} {
			p.heard(t, bad, 5)
		}
		for _, c := range []struct {
			n    uint32
			want api.Errno
		}{{100, api.OK}, {100, api.ErrTwice}, {36, api.ErrOld}, {37, api.OK}, {37, api.ErrTwice}, {300, api.OK}} {
			for range 25 {
				p.tick(t)
			}
			was := p.Ways[1-i]
			if got := p.Heard(i, c.n); got != c.want || p.Ways[i].State() != path.Alive || p.Ways[1-i] != was {
				t.Errorf("Heard(%d, %d): %d, not %d; %+v", i, c.n, got, c.want, p.Ways)
			}
			p.plain.ways[i].Heard(c.n)
			p.asked(t)
		}
	}
}

// P15.5: Trip at the edges of what may be, by times that go round; nothing else changes, nor does the other way.
func TestTrip(t *testing.T) {
	for _, now := range []int64{0, 1, 1000, 2000, 5000, 1 << 31, 1<<32 - 1, 1<<32 + 7} {
		for _, c := range []struct {
			ticks int64
			trips int
		}{{0, 1}, {1, 1}, {9, 1}, {1999, 1}, {2000, 1}, {2001, 0}, {2002, 0}, {1 << 16, 0}, {1 << 31, 0}, {-1, 0}, {-2000, 0}, {1<<32 - 2001, 0}} {
			for i := range 2 {
				p := made(t, 1, 10, 66, 3).at(now)
				p.trip(t, i, uint32(now-c.ticks))
				var want stats.Stats
				if c.trips == 1 {
					want.Trip(int(c.ticks))
				}
				if p.Ways[i].Stats != want || want.Trips != c.trips || p.Ways[1-i] != (path.Path{}) {
					t.Errorf("at %d, %d ticks: %+v", now, c.ticks, p.Ways)
				}
			}
		}
	}
	p := made(t, 1, 10, 66, 3).at(50)
	for _, bad := range []int{-1, 2, math.MinInt, math.MaxInt, 1 << 32} {
		p.trip(t, bad, 45)
	}
	for _, then := range []uint32{45, 46, 30} { // one behind the other
		p.trip(t, 0, then)
	}
	if p.Ways[0].Trips != 3 || p.Ways[1].Trips != 0 {
		t.Errorf("%+v", p.Ways)
	}
}

// P15.8: by each way numbers go up by one, going round, whatever goes by it.
func TestNumbers(t *testing.T) {
	for _, from := range []uint32{0, 1<<31 - 3, math.MaxUint32 - 3} {
		p := made(t, 1, 100, 1000, 20)
		for i := range p.Ways {
			p.Ways[i].Next, p.plain.ways[i].Next = from+uint32(i), from+uint32(i)
		}
		next := [2]uint32{from, from + 1}
		for n := range 300 {
			p.push(t, n%4, keep)
			if n%7 == 0 {
				p.heard(t, n/7%2, uint32(n))
			}
			for _, one := range append(p.tick(t), p.flush(t)...) {
				if one.Data.Seq != next[one.Path] {
					t.Fatalf("%d: %+v, not %d", n, one, next[one.Path])
				}
				next[one.Path]++
			}
		}
		if next[0] == from || next[1] == from+1 || next != [2]uint32{p.Ways[0].Next, p.Ways[1].Next} {
			t.Errorf("%v from %d", next, from)
		}
	}
}

// account is how many bytes went at each tick.
type account []int

// counted: what went now, beside what went before.
func (a account) counted(list []Sent) {
	for _, one := range list {
		a[len(a)-1] += wire.Size(one.Data)
	}
}

// within: in each row of ticks, did no more go than the burst and the rate times the ticks?
func (a account) within(rate, burst int) bool {
	for from := range a {
		sum := 0
		for i, n := range a[from:] {
			if sum += n; sum > burst+rate*i {
				return false
			}
		}
	}
	return true
}

// P15.6, and all calls, mixed, in long rows.
func TestMany(t *testing.T) {
	for seed := range 60 {
		rate, burst := 1+seed*seed%90, 30+seed*37%700
		p := made(t, uint32(seed), rate, burst, 1+seed%12).at(int64(seed%3) * (1<<32 - 60) / 2)
		steps := mixed.Bytes(seed, 1500)
		went := account{0}
		var heard [2]uint32
		for i := 0; i < len(steps); i += 3 {
			a, b := int(steps[i+1]), int(steps[i+2])
			switch steps[i] % 12 {
			case 0:
				p.forget(t, func(d api.Datagram) bool { return int(d.A)%5 == a%5 })
			case 1:
				p.trip(t, a%3, p.Now()-uint32(b))
			case 2, 3:
				heard[a%2] += uint32(b % 4)
				p.heard(t, a%2, heard[a%2])
			case 4:
				p.heard(t, a%5-1, uint32(b))
			case 5, 6:
				p.push(t, a%6-1, api.Datagram{Kind: b % 10, A: uint32(a)})
			case 7:
				p.push(t, a%6-1, shard(uint32(a), b))
			case 8:
				went.counted(p.flush(t))
			case 9:
				for range b / 4 {
					went = append(went, 0)
					went.counted(p.tick(t))
				}
			default:
				went = append(went, 0)
				went.counted(p.tick(t))
				went.counted(p.flush(t))
			}
		}
		if !went.within(rate, burst) {
			t.Errorf("rate %d, burst %d: %v went", rate, burst, went)
		}
	}
}

// P15.6: one that always has something to send sends all bytes that come, but for what is over when the next one doesn't fit, and no more.
func TestGreedy(t *testing.T) {
	p := made(t, 1, 50, 120, 256)
	went := account{0}
	for n := range 400 {
		for rank := range 4 {
			p.push(t, rank, shard(uint32(n), 1+n%60))
		}
		went.counted(p.flush(t))
		went = append(went, 0)
		went.counted(p.tick(t))
	}
	sum := 0
	for _, n := range went {
		sum += n
	}
	b := p.Bucket()
	if !went.within(50, 120) || int64(sum) != b.Spent || sum+b.Held+int(b.Full) != 120+50*400 || sum < 50*390 {
		t.Errorf("%d bytes went: %v, %+v", sum, went, b)
	}
}

// P1: ways may hold whatever numbers their fields can, and the calls take whatever arguments: all end.
func TestEnds(t *testing.T) {
	edges := []int{0, 1, -1, 19, 60, 6553, 1 << 30, math.MaxInt, math.MinInt}
	for _, a := range edges {
		for _, b := range edges {
			s, _ := New(uint32(a), 100, 5000, 8)
			s.Ways[0] = path.Path{Stats: stats.Stats{Loss: a, Rtt: b, Var: a}, Quiet: b, Probe: a, Gap: b, Next: uint32(a)}
			s.Ways[1] = path.Path{Stats: stats.Stats{Loss: b, Rtt: -64, Var: a}, Quiet: a, Probe: b, Gap: a, Next: uint32(b)}
			for _, c := range edges {
				s.Choose(c)
				s.Push(c, keep)
				s.Push(a, api.Datagram{Kind: b, Path: c, K: a, M: b, Index: c, Data: []byte{1}})
				s.Tick()
				s.Flush()
				s.Heard(c, uint32(a))
				s.Trip(c, uint32(b))
			}
		}
	}
}
