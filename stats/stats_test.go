package stats

import (
	"math"
	"math/big"
	"testing"

	"backstay/mixed"
)

// Trips and counts that are edges of something: of what is held, of int, of what goes round when it is multiplied.
var (
	edgeTicks  = []int{0, 1, 2, 249, 250, 251, 1999, 2000, 2001, 15999, 16000, 16001, 1 << 29, 1 << 32, 1<<60 - 1, 1 << 60, 1 << 61, 1<<61 + 1, math.MaxInt, -1, -250, -2000, -1 << 32, -1 << 60, -1 << 61, math.MinInt}
	edgeCounts = []int{0, 1, 2, 15, 16, 17, 255, 65535, 65536, 65537, 1 << 31, 1 << 32, 1 << 46, 1<<47 - 1, 1 << 47, 1<<47 + 1, 1 << 48, 1 << 62, math.MaxInt - 1, math.MaxInt, -1, -65536, -1 << 48, math.MinInt + 1, math.MinInt}
)

// plain reckons with numbers of any length.
type plain struct {
	loss, rtt, off int64
	marks, trips   int
}

// long: a number that may become of any length.
func long(n int64) *big.Int { return big.NewInt(n) }

// down: a quotient, rounded down; below isn't 0.
func down(above, below *big.Int) *big.Int {
	q, r := new(big.Int).QuoRem(above, below, new(big.Int))
	if r.Sign()*below.Sign() < 0 {
		q.Sub(q, long(1))
	}
	return q
}

// part: a number, and a share of the way to another one.
func part(n, to, share int64) int64 { return n + down(long(to-n), long(share)).Int64() }

// within: a number, held within two others.
func within(n *big.Int, low, high int64) int64 {
	if n.Cmp(long(low)) < 0 {
		return low
	}
	if n.Cmp(long(high)) > 0 {
		return high
	}
	return n.Int64()
}

// mark: what Mark should do.
func (p *plain) mark(lost bool) {
	if lost {
		p.loss = part(p.loss, 65535, 16)
	} else {
		p.loss = part(p.loss, 0, 16)
	}
	p.marks++
}

// trip: what Trip should do.
func (p *plain) trip(ticks int) {
	t := 8 * within(long(int64(ticks)), 0, 2000)
	p.trips++
	if p.trips == 1 {
		p.rtt, p.off = t, t/2
		return
	}
	apart := t - p.rtt
	if apart < 0 {
		apart = -apart
	}
	p.off = part(p.off, apart, 4)
	p.rtt = part(p.rtt, t, 8)
}

// stats: what the fields should be.
func (p *plain) stats() Stats {
	return Stats{Loss: int(p.loss), Rtt: int(p.rtt), Var: int(p.off), Marks: p.marks, Trips: p.trips}
}

// wait: what Wait should tell.
func (p *plain) wait() int {
	if p.trips == 0 {
		return 50
	}
	return int(within(down(long(p.rtt+4*p.off+7), long(8)), 2, 200))
}

// score: what Score should tell.
func (p *plain) score() int {
	return int(down(long(64*(65536-p.loss)), long(64+p.rtt)).Int64())
}

// need: what Need should tell.
func (p *plain) need(count, limit int) int {
	above := new(big.Int).Mul(long(int64(max(count, 0))), long(65536))
	below := long(65536 - p.loss)
	up := down(above, below)
	if new(big.Int).Mul(up, below).Cmp(above) < 0 {
		up.Add(up, long(1))
	}
	return int(within(up, 0, int64(max(limit, 0))))
}

// pair is a way's, and what it should be.
type pair struct {
	*Stats
	plain *plain
}

// made: both, as they begin.
func made() pair { return pair{new(Stats), new(plain)} }

// asked: are the fields as they should be, and do the calls that change nothing tell what they should?
func (p pair) asked(t *testing.T) {
	t.Helper()
	was := p.plain.stats()
	if *p.Stats != was {
		t.Fatalf("%+v, not %+v", *p.Stats, was)
	}
	if was.Loss < 0 || was.Loss > 65535 {
		t.Fatalf("P13.3: Loss %d", was.Loss)
	}
	if got, want := p.Wait(), p.plain.wait(); got != want {
		t.Fatalf("Wait at %+v: %d, not %d", was, got, want)
	}
	if got, want := p.Score(), p.plain.score(); got != want {
		t.Fatalf("Score at %+v: %d, not %d", was, got, want)
	}
	for _, n := range []int{0, 1, 3, 10, 16, 1000} {
		p.need(t, n, 1<<30)
	}
	if *p.Stats != was {
		t.Fatalf("asking made %+v of %+v", *p.Stats, was)
	}
}

func (p pair) need(t *testing.T, count, limit int) {
	t.Helper()
	if got, want := p.Need(count, limit), p.plain.need(count, limit); got != want {
		t.Fatalf("Need(%d, %d) at %+v: %d, not %d", count, limit, *p.Stats, got, want)
	}
}

// Each of these does the same to both, and asks what came of it.

func (p pair) mark(t *testing.T, lost bool) {
	t.Helper()
	p.Mark(lost)
	p.plain.mark(lost)
	p.asked(t)
}

func (p pair) trip(t *testing.T, ticks int) {
	t.Helper()
	p.Trip(ticks)
	p.plain.trip(ticks)
	p.asked(t)
}

// clone: a pair that goes its own way.
func (p pair) clone() pair {
	s, q := *p.Stats, *p.plain
	return pair{&s, &q}
}

// The chapter's examples.
func TestExamples(t *testing.T) {
	var s Stats
	if got := s.Need(4, 10); got != 4 {
		t.Errorf("Need(4, 10): %d", got)
	}
	s.Trip(4)
	if want := (Stats{Rtt: 32, Var: 16, Trips: 1}); s != want {
		t.Errorf("Trip(4): %+v", s)
	}
	if got := s.Wait(); got != 12 {
		t.Errorf("Wait: %d", got)
	}
	if got := s.Need(4, 10); got != 4 {
		t.Errorf("Need(4, 10) behind a trip: %d", got)
	}
}

// The zero Stats is as it begins.
func TestZero(t *testing.T) {
	p := made()
	p.asked(t)
	if p.Wait() != 50 || p.Score() != 65536 {
		t.Errorf("Wait %d, Score %d", p.Wait(), p.Score())
	}
	if LeastWait != 2 || MostWait != 200 {
		t.Errorf("%d, %d", LeastWait, MostWait)
	}
}

// P13.1, P13.3: Mark at each Loss that any row of marks comes to; nothing else but Marks changes.
func TestMark(t *testing.T) {
	seen := map[int]bool{0: true}
	for list := []int{0}; len(list) > 0; list = list[1:] {
		n := list[0]
		for _, lost := range []bool{false, true} {
			s, p := Stats{Loss: n, Rtt: 9, Var: 7, Marks: 5, Trips: 3}, plain{int64(n), 9, 7, 5, 3}
			s.Mark(lost)
			p.mark(lost)
			if s != p.stats() {
				t.Fatalf("Mark(%t) at %d: %+v, not %+v", lost, n, s, p.stats())
			}
			if s.Loss < 0 || s.Loss > 65535 || lost && s.Loss < n || !lost && n > 0 && s.Loss >= n {
				t.Fatalf("Mark(%t) makes %d of %d", lost, s.Loss, n)
			}
			if !seen[s.Loss] {
				seen[s.Loss] = true
				list = append(list, s.Loss)
			}
		}
	}
	if len(seen) < 1000 {
		t.Errorf("only %d losses were tried", len(seen))
	}
}

// P13.1: what some marks come to, as numbers.
func TestMarkNumbers(t *testing.T) {
	p := made()
	for i, want := range []int{4095, 7935, 11535, 14910} {
		if p.mark(t, true); p.Loss != want || p.Marks != i+1 {
			t.Errorf("%d losses: %+v, not %d", i+1, *p.Stats, want)
		}
	}
	for i, want := range []int{13978, 13104, 12285} { // rounded down, so that it falls by one more where it doesn't come out even
		if p.mark(t, false); p.Loss != want || p.Marks != i+5 {
			t.Errorf("then %d that came: %+v, not %d", i+1, *p.Stats, want)
		}
	}
}

// P13.3: with losses it doesn't fall, and goes no further than just below 65535; without them it comes to 0, and stays there.
func TestMarkLong(t *testing.T) {
	p := made()
	for range 400 {
		was := p.Loss
		if p.mark(t, true); p.Loss < was {
			t.Fatalf("%d of %d", p.Loss, was)
		}
	}
	if p.Loss != 65520 { // 15 more are less than 16 sixteenths
		t.Errorf("after many losses: %d", p.Loss)
	}
	for n := 0; p.Loss > 0 && n < 400; n++ {
		was := p.Loss
		if p.mark(t, false); p.Loss >= was {
			t.Fatalf("%d of %d", p.Loss, was)
		}
	}
	if p.mark(t, false); p.Loss != 0 {
		t.Errorf("in the end %d", p.Loss)
	}
}

// P13.1: the first trip, at ticks of all kinds; what is marked ahead of it changes nothing of that.
func TestTripFirst(t *testing.T) {
	for _, ticks := range append(edgeTicks, 3, 4, 10, 100, 248, 300, 1000, 1998, 2002, 3000) {
		p := made()
		p.trip(t, ticks)
		p = made()
		p.mark(t, true)
		p.mark(t, false)
		p.trip(t, ticks)
	}
	for _, c := range []struct{ ticks, rtt, off int }{
		{0, 0, 0}, {1, 8, 4}, {4, 32, 16}, {249, 1992, 996}, {250, 2000, 1000}, {251, 2008, 1004}, {1999, 15992, 7996}, {2000, 16000, 8000},
		{2001, 16000, 8000}, {1 << 40, 16000, 8000}, {1 << 61, 16000, 8000}, {math.MaxInt, 16000, 8000}, {-1, 0, 0}, {-1 << 61, 0, 0}, {math.MinInt, 0, 0},
	} {
		var s Stats
		s.Trip(c.ticks)
		if want := (Stats{Rtt: c.rtt, Var: c.off, Trips: 1}); s != want {
			t.Errorf("Trip(%d): %+v, not %+v", c.ticks, s, want)
		}
	}
}

// P13.1: it is the ticks that are held from 0 to 2000, ahead of the 8 times: a trip of so many is told as it is, first or not, and none else.
func TestTripHeld(t *testing.T) {
	for ticks := -50; ticks <= 2100; ticks++ {
		is := min(max(ticks, 0), 2000)
		var s Stats
		if s.Trip(ticks); s.Rtt != 8*is || s.Var != 4*is {
			t.Fatalf("Trip(%d): %+v", ticks, s)
		}
		next := Stats{Rtt: 8 * 2000, Trips: 1} // a tick more of the trip makes an 8th of the way one more
		if next.Trip(ticks); next.Rtt != 7*2000+is || next.Var != 2*(2000-is) {
			t.Fatalf("Trip(%d) behind long ones: %+v", ticks, next)
		}
	}
	for _, c := range []struct{ ticks, rtt, off int }{
		{250, 278, 504}, {251, 279, 506}, {2000, 2028, 4004}, {2001, 2028, 4004}, {math.MaxInt, 2028, 4004}, {-1, 28, 20}, {math.MinInt, 28, 20},
	} {
		var s Stats
		s.Trip(4)
		s.Trip(c.ticks)
		if want := (Stats{Rtt: c.rtt, Var: c.off, Trips: 2}); s != want {
			t.Errorf("Trip(4), Trip(%d): %+v, not %+v", c.ticks, s, want)
		}
	}
}

// P13.1: trips one behind the other; the Var goes ahead of the Rtt.
func TestTripNext(t *testing.T) {
	p := made()
	for i, c := range []struct{ ticks, rtt, off int }{
		{10, 80, 40}, {2, 72, 46}, {2, 65, 48}, {9, 65, 37}, {8, 64, 28}, {0, 56, 37}, {-5, 49, 41}, {1000, 1042, 2018}, {2001, 2911, 5253},
	} {
		p.trip(t, c.ticks)
		if want := (Stats{Rtt: c.rtt, Var: c.off, Trips: i + 1}); *p.Stats != want {
			t.Errorf("Trip(%d): %+v, not %+v", c.ticks, *p.Stats, want)
		}
	}
	for a := range 40 {
		for b := range 40 {
			for _, c := range []int{0, 5, a, b, 250, 2000} {
				p := made()
				p.trip(t, a)
				p.trip(t, b)
				p.trip(t, c)
			}
		}
	}
	for _, a := range edgeTicks {
		for _, b := range edgeTicks {
			p := made()
			p.trip(t, a)
			p.trip(t, b)
			p.trip(t, 3)
			p.trip(t, a)
		}
	}
}

// P13.1: a first trip of no ticks is one: the next one isn't the first.
func TestTripNone(t *testing.T) {
	p := made()
	p.trip(t, 0)
	p.trip(t, 8)
	if want := (Stats{Rtt: 8, Var: 16, Trips: 2}); *p.Stats != want {
		t.Errorf("%+v", *p.Stats)
	}
}

// P13.2: Wait at its limits, rounded down, and as long as no trip was told.
func TestWait(t *testing.T) {
	for _, c := range []struct {
		trips []int
		want  int
	}{
		{nil, 50}, {[]int{0}, 2}, {[]int{-7}, 2}, {[]int{1}, 3}, {[]int{2}, 6}, {[]int{66}, 198}, {[]int{67}, 200}, {[]int{250}, 200}, {[]int{2000}, 200}, {[]int{math.MaxInt}, 200},
		{[]int{10, 2}, 32}, {[]int{10, 2, 2}, 33}, {[]int{0, 1}, 2}, {[]int{0, 2}, 3}, {[]int{0, 0, 0, 0}, 2},
	} {
		var s Stats
		s.Mark(true)
		for _, ticks := range c.trips {
			s.Trip(ticks)
		}
		if got := s.Wait(); got != c.want {
			t.Errorf("Wait behind trips of %v, at %+v: %d, not %d", c.trips, s, got, c.want)
		}
	}
	p := made()
	for range 300 {
		p.trip(t, 5)
	}
	if p.Wait() != 5 || p.Rtt != 40 || p.Var != 0 {
		t.Errorf("Wait where trips are all like: %d at %+v", p.Wait(), *p.Stats)
	}
}

// P13.2: Score, as numbers.
func TestScore(t *testing.T) {
	for _, c := range []struct{ losses, trip, want int }{
		{0, -1, 65536}, {0, 0, 65536}, {0, 1, 58254}, {0, 4, 43690}, {0, 8, 32768}, {0, 250, 2032}, {0, 251, 2024}, {0, 2000, 261}, {0, 2001, 261}, {1, -1, 61441}, {1, 8, 30720}, {400, -1, 16}, {400, 250, 0}, {400, 2000, 0},
	} {
		p := made()
		for range c.losses {
			p.Mark(true)
			p.plain.mark(true)
		}
		if c.trip >= 0 {
			p.trip(t, c.trip)
		}
		p.asked(t)
		if got := p.Score(); got != c.want {
			t.Errorf("Score behind %d losses and a trip of %d: %d, not %d", c.losses, c.trip, got, c.want)
		}
	}
}

// someStats: of all kinds, as Mark and Trip make them.
func someStats() []pair {
	list := []pair{made()}
	p := made()
	for i, b := range mixed.Bytes(13, 600) {
		switch by := int(b); {
		case i%100 == 99:
			p = made()
		case i/100%2 == 0 && by%3 > 0, by%7 == 0:
			p.Mark(by%2 == 0)
			p.plain.mark(by%2 == 0)
		case by%5 == 0:
			p.Trip(by * 9)
			p.plain.trip(by * 9)
		default:
			p.Trip(by % 8)
			p.plain.trip(by % 8)
		}
		list = append(list, p.clone())
	}
	return list
}

// P13.2, P13.4: of any two, Better tells whose score is greater; neither of like ones is; one with as much loss, or more, and with trips as long, or longer, isn't better.
func TestBetter(t *testing.T) {
	list := someStats()
	for _, a := range list {
		for _, b := range list {
			got := Better(*a.Stats, *b.Stats)
			if got != (a.plain.score() > b.plain.score()) {
				t.Fatalf("Better(%+v, %+v): %t", *a.Stats, *b.Stats, got)
			}
			if got && a.Loss >= b.Loss && a.Rtt >= b.Rtt {
				t.Fatalf("P13.4: Better(%+v, %+v)", *a.Stats, *b.Stats)
			}
		}
	}
}

// P13.2: how much is waited, how many were marked and told, doesn't make one better.
func TestBetterLike(t *testing.T) {
	a := Stats{Loss: 100, Rtt: 9, Var: 90, Marks: 7, Trips: 8}
	b := Stats{Loss: 100, Rtt: 9, Var: 3, Marks: 900, Trips: 70}
	if Better(a, b) || Better(b, a) || Better(a, a) {
		t.Errorf("%t, %t, %t", Better(a, b), Better(b, a), Better(a, a))
	}
}

// P13.2: Need, as numbers: rounded up, and held.
func TestNeedNumbers(t *testing.T) {
	var lossless Stats
	one, much := lossless, lossless
	one.Mark(true)
	for range 400 {
		much.Mark(true)
	}
	for _, c := range []struct {
		s                  Stats
		count, limit, want int
	}{
		{lossless, 0, 10, 0}, {lossless, 10, 10, 10}, {lossless, 11, 10, 10}, {lossless, -1, 10, 0}, {lossless, 4, 0, 0}, {lossless, 4, -1, 0},
		{lossless, math.MaxInt, math.MaxInt, math.MaxInt}, {lossless, 1 << 62, math.MaxInt, 1 << 62}, {lossless, math.MinInt, math.MinInt, 0},
		{one, 1, 10, 2}, {one, 15, 100, 16}, {one, 16, 100, 18}, {one, 15, 15, 15}, {one, 61441, 1 << 20, 65536}, {one, 61442, 1 << 20, 65538},
		{much, 1, 1 << 20, 4096}, {much, 1, 4095, 4095}, {much, 3, 1 << 20, 12288}, {much, 1 << 51, math.MaxInt, math.MaxInt}, {much, 1<<51 - 1, math.MaxInt, math.MaxInt - 4095},
	} {
		if got := c.s.Need(c.count, c.limit); got != c.want {
			t.Errorf("Need(%d, %d) at %+v: %d, not %d", c.count, c.limit, c.s, got, c.want)
		}
	}
}

// P13.2: Need at all kinds of counts, limits and losses.
func TestNeed(t *testing.T) {
	list := someStats()
	for i := 0; i < len(list); i += 3 {
		for _, count := range edgeCounts {
			for _, limit := range edgeCounts {
				list[i].need(t, count, limit)
			}
		}
		for count := range 40 {
			list[i].need(t, count, 300)
			list[i].need(t, count, count+1)
		}
	}
}

// Long rows of calls of all kinds.
func TestMany(t *testing.T) {
	for seed := range 20 {
		p := made()
		for i, b := range mixed.Bytes(seed, 600) {
			switch by := int(b); {
			case by < 60:
				p.trip(t, by%12)
			case by < 70:
				p.trip(t, edgeTicks[by%len(edgeTicks)])
			case by < 80:
				p.trip(t, by*27)
			default:
				p.mark(t, by%(2+i/100) == 0)
			}
		}
	}
}

// P2: two of them have nothing in common, and a copy goes its own way.
func TestApart(t *testing.T) {
	a, b := made(), made()
	a.mark(t, true)
	a.trip(t, 7)
	b.asked(t)
	b.trip(t, 3)
	c := a.clone()
	c.mark(t, false)
	c.trip(t, 90)
	a.asked(t)
	b.asked(t)
	c.asked(t)
}

// P1: of Stats that neither Mark nor Trip made nothing is promised but that the calls end.
func TestEnds(t *testing.T) {
	for _, n := range edgeCounts {
		for _, m := range []int{n, 65536, -64, 0, math.MinInt, math.MaxInt} {
			s := Stats{Loss: m, Rtt: n, Var: m, Marks: n, Trips: n}
			for _, count := range edgeCounts {
				s.Need(count, 9)
				s.Need(9, count)
			}
			s.Wait()
			s.Score()
			Better(s, Stats{Loss: n, Rtt: m})
			for _, ticks := range edgeTicks {
				c := s
				c.Trip(ticks)
				c.Mark(ticks%2 == 0)
				c.Trip(ticks)
			}
		}
	}
}
