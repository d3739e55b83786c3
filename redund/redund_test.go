package redund

import (
	"math"
	"math/big"
	"testing"

	"backstay/api"
	"backstay/mixed"
)

// Numbers that are edges of something: of what is held, of int, of what goes round when it is multiplied.
var edges = []int{
	math.MinInt, math.MinInt + 1, -1 << 48, -1 << 32, -65536, -17, -1, 0, 1, 2, 7, 8, 15, 16, 17, 31, 32, 33, 240, 254, 255, 256,
	32768, 65534, 65535, 65536, 65537, 1<<32 - 1, 1 << 32, 1 << 48, 1 << 62, math.MaxInt - 1, math.MaxInt,
}

// someLosses: the edges of what may get lost, and others of all sizes.
func someLosses() []int {
	list := []int{0, 1, 2, 255, 256, 257, 4095, 4096, 6553, 16384, 21845, 32767, 32768, 32769, 43690, 49152, 61440, 61441, 65519, 65520, 65534, 65535, 65536}
	data := mixed.Bytes(16, 120)
	for i := 0; i < len(data); i += 2 {
		list = append(list, int(data[i])<<8|int(data[i+1]))
	}
	return list
}

// within: a number, held within two others.
func within(n, low, high int) int {
	if n < low {
		return low
	}
	if n > high {
		return high
	}
	return n
}

// plainTarget: what Target should tell; shards are counted up until enough of them come.
func plainTarget(k, loss, most int) int {
	k, loss = within(k, 0, 16), within(loss, 0, 65535)
	if k == 0 || loss == 0 || most < 0 {
		return 0
	}
	all := 0
	for all < 255 && all*(65536-loss) < k*65536 {
		all++
	}
	return within(all-k+1, 0, most)
}

// plainOdds: what Odds should tell; of each count of shards from those of one shard less.
func plainOdds(shards, need, loss int) int {
	if shards < 0 || shards > 32 || need > shards {
		return 0
	}
	lost := within(loss, 0, 65536)
	part := func(odds, by int) int { return odds * by / 65536 }
	var odds [33][33]int
	odds[0][0] = 65536
	for n := 1; n <= shards; n++ {
		odds[n][0] = part(odds[n-1][0], lost)
		for i := 1; i <= n; i++ {
			odds[n][i] = part(odds[n-1][i], lost) + part(odds[n-1][i-1], 65536-lost)
		}
	}
	sum := 0
	for i, n := range odds[shards] {
		if i >= need {
			sum += n
		}
	}
	return min(sum, 65536)
}

// plain is a control that keeps what each group of the row that needed less needed.
type plain struct {
	now, most int
	less      []int
}

// next: what Next should tell.
func (p *plain) next(k, loss int) int {
	t := plainTarget(k, loss, p.most)
	if t >= p.now {
		p.now, p.less = t, nil
		return p.now
	}
	p.less = append(p.less, t)
	if len(p.less) == 8 {
		p.now, p.less = p.now-1, nil
	}
	return p.now
}

// control: what the fields should be.
func (p *plain) control() Control { return Control{Now: p.now, Most: p.most, Calm: len(p.less)} }

// pair is a control, and what it should be.
type pair struct {
	*Control
	plain *plain
}

// made: both, as they begin.
func made(t *testing.T, most int) pair {
	t.Helper()
	c, e := New(most)
	if e != api.OK || c == nil {
		t.Fatalf("New(%d): %d", most, e)
	}
	p := pair{c, &plain{most: most}}
	p.asked(t)
	return p
}

// asked: are the fields as they should be? P16.4: Now is from 0 to Most.
func (p pair) asked(t *testing.T) {
	t.Helper()
	if want := p.plain.control(); *p.Control != want {
		t.Fatalf("%+v, not %+v", *p.Control, want)
	}
	if p.Now < 0 || p.Now > p.Most || p.Calm < 0 || p.Calm >= CalmGroups {
		t.Fatalf("P16.4: %+v", *p.Control)
	}
}

// next: the same of both. P16.4: it falls by one at most, and to nothing less than is needed.
func (p pair) next(t *testing.T, k, loss int) {
	t.Helper()
	was := *p.Control
	got, want := p.Next(k, loss), p.plain.next(k, loss)
	if got != want {
		t.Fatalf("Next(%d, %d) at %+v: %d, not %d", k, loss, was, got, want)
	}
	if got != p.Now || got < was.Now-1 || got < Target(k, loss, was.Most) {
		t.Fatalf("P16.4: Next(%d, %d) at %+v: %d, and then %+v", k, loss, was, got, *p.Control)
	}
	p.asked(t)
}

// P16.1: at each number of parity shards, and around them.
func TestNew(t *testing.T) {
	list := edges
	for most := -40; most <= 40; most++ {
		list = append(list, most)
	}
	for _, most := range list {
		c, e := New(most)
		if most < 0 || most > 16 {
			if c != nil || e != api.ErrRange {
				t.Errorf("New(%d): %v, %d", most, c, e)
			}
			continue
		}
		if e != api.OK || c == nil || *c != (Control{Most: most}) {
			t.Errorf("New(%d): %v, %d", most, c, e)
		}
	}
	if CalmGroups != 8 {
		t.Errorf("CalmGroups: %d", CalmGroups)
	}
}

// P16.1, the chapter's examples among them.
func TestTargetNumbers(t *testing.T) {
	for _, c := range []struct{ k, loss, most, want int }{
		{4, 0, 16, 0}, {4, 32768, 16, 5}, {4, 16384, 16, 3}, {4, 16384, 2, 2}, {4, 16384, 3, 3},
		{1, 1, 16, 2}, {1, 1, 1, 1}, {1, 1, 0, 0}, {1, 1, -1, 0}, {1, 32768, 16, 2}, {1, 32769, 16, 3},
		{16, 1, 16, 2}, {16, 3855, 16, 2}, {16, 3856, 16, 3}, {15, 4096, 16, 2}, {15, 4097, 16, 3}, {16, 31775, 100, 17}, {16, 31775, 16, 16},
		{0, 65535, 16, 0}, {-1, 65535, 16, 0}, {17, 32768, 40, 17}, {16, 32768, 40, 17},
		{4, -1, 16, 0}, {4, 65535, 16, 16}, {4, 65536, 16, 16},
		{1, 65279, 1000, 255}, {1, 65278, 1000, 255}, {1, 65270, 1000, 247}, {1, 65535, 1000, 255}, {1, 65536, 1000, 255}, {16, 65535, 1000, 240},
		{math.MaxInt, math.MaxInt, math.MaxInt, 240}, {math.MinInt, math.MaxInt, math.MaxInt, 0}, {math.MaxInt, math.MinInt, math.MaxInt, 0}, {math.MaxInt, math.MaxInt, math.MinInt, 0},
	} {
		if got := Target(c.k, c.loss, c.most); got != c.want {
			t.Errorf("Target(%d, %d, %d): %d, not %d", c.k, c.loss, c.most, got, c.want)
		}
	}
}

// P16.1: at each count of data shards, and each loss.
func TestTarget(t *testing.T) {
	for k := -1; k <= 18; k++ {
		for loss := -2; loss <= 65538; loss++ {
			if got, want := Target(k, loss, 300), plainTarget(k, loss, 300); got != want {
				t.Fatalf("Target(%d, %d, 300): %d, not %d", k, loss, got, want)
			}
		}
	}
	for _, loss := range someLosses() {
		for k := -1; k <= 18; k++ {
			for most := -2; most <= 260; most++ {
				if got, want := Target(k, loss, most), plainTarget(k, loss, most); got != want {
					t.Fatalf("Target(%d, %d, %d): %d, not %d", k, loss, most, got, want)
				}
			}
		}
	}
}

// P16.5: with a loss more, or a data shard more, it is no less, as long as no more than MaxParity may be sent.
func TestTargetGrows(t *testing.T) {
	for most := range 17 {
		for k := range 17 {
			for loss := -1; loss <= 65536; loss += 1 + most%5 {
				n := Target(k, loss, most)
				if n < 0 || n > most || Target(k, loss+1, most) < n || Target(k+1, loss, most) < n {
					t.Fatalf("Target(%d, %d, %d) is %d, with a loss more %d, with a shard more %d", k, loss, most, n, Target(k, loss+1, most), Target(k+1, loss, most))
				}
			}
		}
	}
}

// P16.2: what some groups come to, as numbers; of 4 data shards 5 are needed at 32768, 3 at 16384, 2 at 1, none at 0.
func TestNextNumbers(t *testing.T) {
	c, _ := New(16)
	step := 0
	for _, row := range []struct{ times, loss, want, calm int }{
		{1, 0, 0, 0}, {1, 32768, 5, 0}, {1, 32768, 5, 0},
		{7, 0, 5, 7}, {1, 0, 4, 0}, {7, 0, 4, 7}, {1, 0, 3, 0}, // by one in eight, however much less is needed
		{7, 1, 3, 7}, {1, 16384, 3, 0}, {7, 0, 3, 7}, {1, 32768, 5, 0}, // as much as now, or more, begins the row anew
		{3, 0, 5, 3}, {4, 16384, 5, 7}, {1, 1, 4, 0}, // what is needed less may be all kinds
		{16, 1, 2, 0}, {20, 1, 2, 0}, {8, 0, 1, 0}, {8, 0, 0, 0}, {9, 0, 0, 0}, {1, 65535, 16, 0}, {8, 65000, 16, 0}, {8, 0, 15, 0},
	} {
		got := 0
		for range row.times {
			got = c.Next(4, row.loss)
			step++
		}
		if want := (Control{Now: row.want, Most: 16, Calm: row.calm}); got != row.want || *c != want {
			t.Fatalf("group %d, behind %d of loss %d: %d, and %+v, not %+v", step, row.times, row.loss, got, *c, want)
		}
	}
}

// calls: a call of Next for each number of parity shards that may be needed, and others that are held.
func calls() [][2]int {
	list := [][2]int{{0, 65535}, {-1, 65535}, {16, -1}, {17, 40000}, {math.MinInt, math.MaxInt}, {math.MaxInt, math.MinInt}, {math.MaxInt, math.MaxInt}}
	for loss := 0; loss <= 65536; loss += 2048 {
		for _, k := range []int{1, 2, 5, 16} {
			list = append(list, [2]int{k, loss}, [2]int{k, loss + 1})
		}
	}
	return list
}

// P16.2, P16.4: at each state that any row of groups comes to.
func TestNext(t *testing.T) {
	for most := range 17 {
		begin := made(t, most)
		seen := map[Control]bool{*begin.Control: true}
		for list := []pair{begin}; len(list) > 0; list = list[1:] {
			for _, call := range calls() {
				p := list[0].clone()
				p.next(t, call[0], call[1])
				if !seen[*p.Control] {
					seen[*p.Control] = true
					list = append(list, p)
				}
			}
		}
		// At 0 no group needs less; at each other number up to 7 in a row may have.
		if len(seen) != 1+8*most {
			t.Errorf("Most %d: %d states", most, len(seen))
		}
	}
}

// clone: a pair that goes its own way.
func (p pair) clone() pair {
	c, q := *p.Control, *p.plain
	q.less = append([]int(nil), q.less...)
	return pair{&c, &q}
}

// row: losses of all kinds, for so many groups, with calm times between.
func row(seed, count int) []int {
	list := make([]int, count)
	for i, b := range mixed.Bytes(seed, count) {
		switch by := int(b); {
		case i/40%3 == 1:
			list[i] = by % 8 / 7
		case by%11 == 0:
			list[i] = by << 8
		default:
			list[i] = by << 5
		}
	}
	return list
}

// Long rows of groups of all kinds. P16.4: from one fall to the next one there are eight groups.
func TestMany(t *testing.T) {
	for seed := range 40 {
		p := made(t, seed%17)
		sizes := mixed.Bytes(seed+100, 1000)
		fell := -8
		for i, loss := range row(seed, 1000) {
			was := p.Now
			p.next(t, int(sizes[i]%18), loss)
			if p.Now < was {
				if i-fell < 8 {
					t.Fatalf("P16.4: seed %d: it falls at %d and %d", seed, fell, i)
				}
				fell = i
			}
		}
	}
}

// P16.5: where as much gets lost, or more, in each group, and each has as many shards, or more, no fewer are sent in any.
func TestMore(t *testing.T) {
	for seed := range 40 {
		few, more := made(t, 16), made(t, 16)
		by := mixed.Bytes(seed+200, 2000)
		for i, loss := range row(seed, 1000) {
			k := int(by[i] % 17)
			few.next(t, k, loss)
			more.next(t, k+int(by[i+1000]&1), loss+int(by[i+1000])>>1<<(i%7))
			if more.Now < few.Now {
				t.Fatalf("seed %d, group %d: %+v, and of less %+v", seed, i, *more.Control, *few.Control)
			}
		}
	}
}

// P2: two of them have nothing in common, and Target and Odds change nothing.
func TestApart(t *testing.T) {
	a, b := made(t, 9), made(t, 9)
	a.next(t, 4, 30000)
	b.asked(t)
	b.next(t, 7, 1)
	c := a.clone()
	for range 8 {
		c.next(t, 4, 0)
	}
	Target(16, 65535, 9)
	Odds(32, 3, 5000)
	a.asked(t)
	b.asked(t)
	c.asked(t)
}

// P16.3: as numbers.
func TestOddsNumbers(t *testing.T) {
	for _, c := range []struct{ shards, need, loss, want int }{
		{0, 0, 0, 65536}, {0, -1, 65536, 65536}, {0, 1, 0, 0}, {-1, -1, 0, 0}, {-1, -2, 0, 0}, {33, 0, 0, 0}, {33, 33, 0, 0},
		{2, 1, 32768, 49152}, {2, 2, 32768, 16384}, {2, 0, 32768, 65536}, {2, -5, 32768, 65536}, {2, 3, 32768, 0},
		{1, 1, 1, 65535}, {1, 0, 1, 65536}, {1, 1, 65535, 1}, {1, 1, 65536, 0}, {1, 0, 65536, 65536},
		{2, 0, 1, 65534}, {2, 1, 1, 65534}, {2, 2, 1, 65534}, // both parts of one at 1 come to less than one
		{2, 0, 65535, 65534}, {2, 1, 65535, 0},
		{3, 2, 20000, 50948}, {3, 3, 20000, 21983}, {3, 1, 20000, 63669}, {3, 0, 20000, 65531},
		{32, 32, 0, 65536}, {32, 32, -1, 65536}, {32, 32, math.MinInt, 65536}, {32, 1, 65536, 0}, {32, 0, 65537, 65536}, {32, 1, math.MaxInt, 0},
		{32, math.MinInt, 0, 65536}, {32, math.MaxInt, 0, 0}, {32, 33, 0, 0}, {math.MaxInt, 1, 0, 0}, {math.MinInt, math.MinInt, 0, 0}, {math.MaxInt, math.MaxInt, 0, 0},
	} {
		if got := Odds(c.shards, c.need, c.loss); got != c.want {
			t.Errorf("Odds(%d, %d, %d): %d, not %d", c.shards, c.need, c.loss, got, c.want)
		}
	}
}

// P16.3: at each count of shards and each need; one more that is needed is no more likely.
func TestOdds(t *testing.T) {
	for _, loss := range someLosses() {
		for shards := -1; shards <= 34; shards++ {
			last := 65536
			for need := -2; need <= shards+2; need++ {
				got := Odds(shards, need, loss)
				if want := plainOdds(shards, need, loss); got != want {
					t.Fatalf("Odds(%d, %d, %d): %d, not %d", shards, need, loss, got, want)
				}
				if got < 0 || got > last {
					t.Fatalf("Odds(%d, %d, %d): %d, of one less %d", shards, need, loss, got, last)
				}
				last = got
			}
		}
	}
}

// exact: 65536 times the odds, as they are; by 65536 to the power of shards, less one.
func exact(shards, need, loss int) (above, below *big.Int) {
	power := func(n, by int) *big.Int { return new(big.Int).Exp(big.NewInt(int64(n)), big.NewInt(int64(by)), nil) }
	above = new(big.Int)
	for i := max(need, 0); i <= shards; i++ {
		part := new(big.Int).Binomial(int64(shards), int64(i))
		part.Mul(part, power(65536-loss, i))
		above.Add(above, part.Mul(part, power(loss, shards-i)))
	}
	return above, power(65536, shards-1)
}

// P16.3: they are never above the odds as these are, and below them by no more than what all the rounding takes: less than one at each of two parts of each count.
func TestOddsExact(t *testing.T) {
	for _, loss := range someLosses() {
		for shards := 1; shards <= 32; shards++ {
			for _, need := range []int{0, 1, shards / 2, shards - 1, shards} {
				above, below := exact(shards, need, loss)
				got := Odds(shards, need, loss)
				low := new(big.Int).Mul(below, big.NewInt(int64(got)))
				high := new(big.Int).Mul(below, big.NewInt(int64(got+shards*(shards+1))))
				if low.Cmp(above) > 0 || high.Cmp(above) < 0 {
					t.Fatalf("Odds(%d, %d, %d): %d, and they are %v of %v", shards, need, loss, got, above, below)
				}
			}
		}
	}
}

// P1: at all arguments, and what then is answered.
func TestEnds(t *testing.T) {
	for _, a := range edges {
		for _, b := range edges {
			for most := range 17 {
				p := made(t, most)
				p.next(t, 9, 30000)
				p.next(t, a, b)
			}
			for _, c := range edges {
				if got, want := Target(a, b, c), plainTarget(a, b, c); got != want {
					t.Fatalf("Target(%d, %d, %d): %d, not %d", a, b, c, got, want)
				}
				if got, want := Odds(a, b, c), plainOdds(a, b, c); got != want {
					t.Fatalf("Odds(%d, %d, %d): %d, not %d", a, b, c, got, want)
				}
			}
		}
	}
}
