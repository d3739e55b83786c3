package pacer

import (
	"math"
	"math/big"
	"slices"
	"testing"

	"backstay/api"
	"backstay/mixed"
)

// plain is a bucket to which each byte comes for itself.
type plain struct {
	rate, burst, held int
	spent, full       int64
}

// tick: what Tick should do.
func (p *plain) tick(ticks int) {
	for range max(0, ticks) {
		for range p.rate {
			if p.held < p.burst {
				p.held++
			} else {
				p.full++
			}
		}
	}
}

// take: what Take should tell.
func (p *plain) take(n int) bool {
	if n < 0 || n > p.held {
		return false
	}
	p.held -= n
	p.spent += int64(n)
	return true
}

// wait: what Wait should tell; p is a bucket of its own, so that ticks may be tried.
func (p plain) wait(n int) (int, bool) {
	if n < 0 || n > p.burst {
		return 0, false
	}
	ticks := 0
	for n > p.held {
		p.tick(1)
		ticks++
	}
	return ticks, true
}

// change: what Change should tell.
func (p *plain) change(rate, burst int) api.Errno {
	if rate < 1 || rate > 1<<20 || burst < 1 || burst > 1<<24 {
		return api.ErrRange
	}
	p.rate, p.burst, p.held = rate, burst, min(p.held, burst)
	return api.OK
}

// bucket: what the fields should be.
func (p *plain) bucket() Bucket {
	return Bucket{Rate: p.rate, Burst: p.burst, Held: p.held, Spent: p.spent, Full: p.full}
}

// pair is a bucket, and what it should be.
type pair struct {
	*Bucket
	plain *plain
}

// full: a bucket as it begins.
func full(t *testing.T, rate, burst int) *Bucket {
	t.Helper()
	b, e := New(rate, burst)
	if e != api.OK || b == nil {
		t.Fatalf("New(%d, %d): %d", rate, burst, e)
	}
	if want := (Bucket{Rate: rate, Burst: burst, Held: burst}); *b != want {
		t.Fatalf("New(%d, %d): %+v, not %+v", rate, burst, *b, want)
	}
	return b
}

// made: both, full.
func made(t *testing.T, rate, burst int) pair {
	t.Helper()
	p := pair{full(t, rate, burst), &plain{rate: rate, burst: burst, held: burst}}
	p.asked(t)
	return p
}

// holding: both, with so many bytes in them.
func holding(t *testing.T, rate, burst, held int) pair {
	t.Helper()
	p := made(t, rate, burst)
	p.take(t, burst-held)
	return p
}

// asked: are the fields as they should be, and do the calls that change nothing tell what they should?
func (p pair) asked(t *testing.T) {
	t.Helper()
	was := p.plain.bucket()
	if *p.Bucket != was {
		t.Fatalf("%+v, not %+v", *p.Bucket, was)
	}
	asks := []int{math.MinInt, math.MinInt + 1, -1 << 32, math.MaxInt, math.MaxInt - 1, 1 << 32, 1<<32 + 1, was.Burst + was.Rate}
	for n := -2; n <= was.Burst+2; n++ {
		asks = append(asks, n)
	}
	for _, n := range asks {
		if got, want := p.May(n), n >= 0 && n <= was.Held; got != want {
			t.Fatalf("May(%d) at %+v: %t", n, was, got)
		}
		ticks, ever := p.Wait(n)
		if wt, we := p.plain.wait(n); ticks != wt || ever != we {
			t.Fatalf("Wait(%d) at %+v: %d, %t, not %d, %t", n, was, ticks, ever, wt, we)
		}
	}
	if *p.Bucket != was {
		t.Fatalf("asking made %+v of %+v", *p.Bucket, was)
	}
}

// Each of these does the same to both, and asks what came of it.

func (p pair) tick(t *testing.T, ticks int) {
	t.Helper()
	p.Tick(ticks)
	p.plain.tick(ticks)
	p.asked(t)
}

func (p pair) take(t *testing.T, n int) {
	t.Helper()
	if got, want := p.Take(n), p.plain.take(n); got != want {
		t.Fatalf("Take(%d): %t, not %t, and then %+v", n, got, want, *p.Bucket)
	}
	p.asked(t)
}

func (p pair) change(t *testing.T, rate, burst int) {
	t.Helper()
	if got, want := p.Change(rate, burst), p.plain.change(rate, burst); got != want {
		t.Fatalf("Change(%d, %d): %d, not %d, and then %+v", rate, burst, got, want, *p.Bucket)
	}
	p.asked(t)
}

// TestExamples: the chapter's own, and the document's sixth of the whole.
func TestExamples(t *testing.T) {
	b := full(t, 10, 30)
	took := b.Take(30)
	if ticks, ever := b.Wait(5); !took || ticks != 1 || !ever {
		t.Errorf("Take(30): %t, Wait(5): %d, %t", took, ticks, ever)
	}
	if got, e := Share(10, 1, 1, 1); !slices.Equal(got, []int{4, 3, 3}) || e != api.OK {
		t.Errorf("Share: %v, %d", got, e)
	}
	b = full(t, 10, 66)
	if !b.Take(33) || !b.Take(33) || b.Take(33) {
		t.Errorf("two datagrams go at once: %+v", *b)
	}
	if ticks, ever := b.Wait(33); ticks != 4 || !ever {
		t.Errorf("Wait(33): %d, %t", ticks, ever)
	}
	b.Tick(3)
	early := b.Take(33)
	b.Tick(1)
	if early || !b.Take(33) {
		t.Errorf("the next one goes behind four ticks: %t, %+v", early, *b)
	}
}

// rates, bursts: those that may be, those just outside of them, and those far away, that might go round to such as may be.
var (
	rates  = []int{math.MinInt, math.MinInt + 1, -1 << 32, -1 << 20, -1, 0, 1, 2, 1000, 1<<20 - 1, 1 << 20, 1<<20 + 1, 1 << 24, 1 << 32, 1<<32 + 1, 1<<63 - 1}
	bursts = []int{math.MinInt, math.MinInt + 1, -1 << 32, -1 << 24, -1, 0, 1, 2, 1000, 1 << 20, 1<<20 + 1, 1<<24 - 1, 1 << 24, 1<<24 + 1, 1 << 32, 1<<32 + 1, 1<<63 - 1}
)

// TestNew: P12.1: which may be made, and that these are full.
func TestNew(t *testing.T) {
	for _, rate := range rates {
		for _, burst := range bursts {
			if rate >= 1 && rate <= 1<<20 && burst >= 1 && burst <= 1<<24 {
				full(t, rate, burst)
			} else if b, e := New(rate, burst); b != nil || e != api.ErrRange {
				t.Errorf("New(%d, %d): %v, %d", rate, burst, b, e)
			}
		}
	}
}

// TestChange: P12.1: which may be changed to, that what is held is cut to the burst, and that a refused one changes nothing.
func TestChange(t *testing.T) {
	for _, rate := range rates {
		for _, burst := range bursts {
			for _, held := range []int{0, 1, 2, 999, 1000, 1001, 5000} {
				b := full(t, 7, 5000)
				b.Tick(3)
				b.Take(5000 - held)
				was, want, wantE := *b, *b, api.ErrRange
				if rate >= 1 && rate <= 1<<20 && burst >= 1 && burst <= 1<<24 {
					want.Rate, want.Burst, want.Held, wantE = rate, burst, min(held, burst), api.OK
				}
				if e := b.Change(rate, burst); e != wantE || *b != want {
					t.Errorf("Change(%d, %d) at %+v: %d, %+v, not %d, %+v", rate, burst, was, e, *b, wantE, want)
				}
			}
		}
	}
}

// TestChangedGoesOn: P12.1: what comes and goes behind a Change is reckoned by the new rate and burst alone; a greater burst holds nothing more at once.
func TestChangedGoesOn(t *testing.T) {
	for rate := 1; rate <= 4; rate++ {
		for burst := 1; burst <= 9; burst++ {
			for held := 0; held <= 5; held++ {
				p := holding(t, 2, 5, held)
				p.change(t, rate, burst)
				p.change(t, 0, burst+1)
				p.change(t, rate+1, 0)
				p.tick(t, 1)
				p.take(t, 3)
				p.tick(t, 2)
				p.change(t, 2, 5)
				p.tick(t, 1)
			}
		}
	}
}

// TestTick: P12.1: at each filling of small buckets, so many ticks in one and one by one.
func TestTick(t *testing.T) {
	for rate := 1; rate <= 7; rate++ {
		for burst := 1; burst <= 9; burst++ {
			for held := 0; held <= burst; held++ {
				for ticks := -2; ticks <= 11; ticks++ {
					p, steps := holding(t, rate, burst, held), holding(t, rate, burst, held)
					p.tick(t, ticks)
					for range max(0, ticks) {
						steps.Tick(1)
					}
					if *p.Bucket != *steps.Bucket {
						t.Fatalf("Tick(%d): %+v, and one by one %+v", ticks, *p.Bucket, *steps.Bucket)
					}
				}
			}
		}
	}
}

// ticked: what Tick should make of a bucket, in numbers of any length.
func ticked(b Bucket, ticks int) Bucket {
	most := big.NewInt(math.MaxInt64)
	come := new(big.Int)
	if ticks > 0 {
		come.Mul(big.NewInt(int64(b.Rate)), big.NewInt(int64(ticks)))
	}
	if come.Cmp(most) > 0 {
		come.Set(most)
	}
	over := new(big.Int).Add(come, big.NewInt(int64(b.Held-b.Burst)))
	if over.Sign() < 0 {
		b.Held += int(come.Int64())
		return b
	}
	b.Held = b.Burst
	if over.Add(over, big.NewInt(b.Full)); over.Cmp(most) > 0 {
		over.Set(most)
	}
	b.Full = over.Int64()
	return b
}

// TestTickFar: P12.1: however many ticks there are, and at the greatest rates, what comes and what is Full are held at their limit.
func TestTickFar(t *testing.T) {
	list := []int{math.MinInt, math.MinInt + 1, -1 << 44, -1 << 32, -1, 0, 1, 15, 16, 17, 1 << 23, 1 << 24, 1<<24 + 1, 1 << 32, 1<<43 - 1, 1 << 43, 1<<43 + 1, 1 << 44, 1 << 50, 1 << 62, math.MaxInt - 1, math.MaxInt}
	for _, rate := range []int{1, 2, 3, 1000, 1<<20 - 1, 1 << 20} {
		for _, burst := range []int{1, 2, 1000, 1<<24 - 1, 1 << 24} {
			for _, held := range []int{0, 1, burst / 2, burst - 1, burst} {
				for _, ticks := range list {
					b := full(t, rate, burst)
					b.Take(burst - held)
					for range 3 {
						was, want := *b, ticked(*b, ticks)
						if b.Tick(ticks); *b != want {
							t.Fatalf("Tick(%d) at %+v: %+v, not %+v", ticks, was, *b, want)
						}
					}
				}
			}
		}
	}
}

// TestFullHeld: P12.1: Full stays at its limit, and the bucket goes on as it does.
func TestFullHeld(t *testing.T) {
	b := full(t, 1<<20, 10)
	b.Tick(1<<43 - 1)
	if want := int64(math.MaxInt64 - 1<<20 + 1); b.Full != want {
		t.Errorf("just ahead of the limit: %d, not %d", b.Full, want)
	}
	for _, ticks := range []int{1, 1, math.MaxInt} {
		b.Tick(ticks)
		if b.Full != math.MaxInt64 || b.Held != 10 {
			t.Errorf("at the limit: %+v", *b)
		}
	}
	if !b.Take(10) || b.Spent != 10 || b.Take(1) {
		t.Errorf("what is held goes: %+v", *b)
	}
	b.Change(3, 10)
	b.Tick(2)
	if b.Held != 6 || b.Full != math.MaxInt64 {
		t.Errorf("it fills again: %+v", *b)
	}
}

// TestTake: P12.2: at each filling of small buckets, each number of bytes, and such as are far outside.
func TestTake(t *testing.T) {
	for burst := 1; burst <= 9; burst++ {
		for held := 0; held <= burst; held++ {
			for n := -3; n <= burst+3; n++ {
				holding(t, 2, burst, held).take(t, n)
			}
			for _, n := range []int{math.MinInt, math.MinInt + 1, -1 << 32, 1 << 32, 1<<32 + 1, math.MaxInt - 1, math.MaxInt} {
				p := holding(t, 2, burst, held)
				p.take(t, n)
				p.take(t, held)
			}
		}
	}
}

// TestWait: P12.2: the least number of ticks: behind them so many may go, and one ahead of that they may not; a wait that comes out even isn't a tick too long.
func TestWait(t *testing.T) {
	for _, rate := range []int{1, 2, 3, 7, 1000, 1<<20 - 1, 1 << 20} {
		for _, burst := range []int{1, 2, 999, 1000, 1001, 1<<20 - 1, 1 << 20, 1<<20 + 1, 1<<24 - 1, 1 << 24} {
			for _, held := range []int{0, 1, burst / 3, burst - 1, burst} {
				for _, n := range []int{0, 1, held - 1, held, held + 1, held + rate - 1, held + rate, held + rate + 1, held + 2*rate, burst/2 + 1, burst - 1, burst} {
					if n >= 0 && n <= burst {
						waits(t, rate, burst, held, n)
					}
				}
			}
		}
	}
}

// waits: is what Wait tells of a number of bytes that may go some day the least number of ticks?
func waits(t *testing.T, rate, burst, held, n int) {
	t.Helper()
	b := full(t, rate, burst)
	b.Take(burst - held)
	was := *b
	ticks, ever := b.Wait(n)
	if !ever || ticks < 0 || *b != was {
		t.Fatalf("Wait(%d) at %+v: %d, %t, and then %+v", n, was, ticks, ever, *b)
	}
	if ticks > 0 {
		b.Tick(ticks - 1)
		if b.May(n) {
			t.Fatalf("Wait(%d) at %+v: %d, but a tick less is enough", n, was, ticks)
		}
		b.Tick(1)
	}
	if !b.May(n) {
		t.Fatalf("Wait(%d) at %+v: %d, which isn't enough", n, was, ticks)
	}
}

// TestWaitNever: P12.2: of more than the burst, and below 0.
func TestWaitNever(t *testing.T) {
	for _, burst := range []int{1, 2, 1000, 1 << 24} {
		for _, held := range []int{0, burst / 2, burst} {
			b := full(t, 3, burst)
			b.Take(burst - held)
			for _, n := range []int{math.MinInt, math.MinInt + 1, -1 << 32, -2, -1, burst + 1, burst + 2, 2 * burst, 1 << 32, 1<<32 + 1, math.MaxInt - 1, math.MaxInt} {
				if ticks, ever := b.Wait(n); ticks != 0 || ever {
					t.Errorf("Wait(%d) at %+v: %d, %t", n, *b, ticks, ever)
				}
			}
		}
	}
}

// TestMany: P12.1, P12.2: long rows of calls, of all kinds, mixed.
func TestMany(t *testing.T) {
	for seed := range 40 {
		p := made(t, 1+seed%5, 1+seed%23)
		steps := mixed.Bytes(seed, 1200)
		for i := 0; i < len(steps); i += 3 {
			a, b := int(steps[i+1]), int(steps[i+2])
			switch steps[i] % 8 {
			case 0, 1, 2:
				p.tick(t, a%7-1)
			case 3:
				p.change(t, a%8, b%30)
			default:
				p.take(t, a%24-1)
			}
		}
	}
}

// TestInAnyTime: P12.4: from each take to each later one not more goes than it may; and nothing that came gets lost.
func TestInAnyTime(t *testing.T) {
	for seed := range 40 {
		rate, burst := 1+seed%6, 1+seed*7%40
		b := full(t, rate, burst)
		var took []int // in each tick
		for _, step := range mixed.Bytes(seed, 120) {
			for range burst {
				b.Take(1 + int(step)%9)
			}
			for range burst * int(step%2) {
				b.Take(1)
			}
			spent := int(b.Spent)
			for _, n := range took {
				spent -= n
			}
			took = append(took, spent)
			b.Tick(1)
		}
		for from := range took {
			sum := 0
			for to := from; to < len(took); to++ {
				sum += took[to]
				if most := burst + rate*(to-from); sum > most {
					t.Fatalf("rate %d, burst %d: from %d to %d %d bytes go, more than %d", rate, burst, from, to, sum, most)
				}
			}
		}
		if all := int64(burst + rate*len(took)); int64(b.Held)+b.Spent+b.Full != all {
			t.Errorf("of %d bytes there are %+v", all, *b)
		}
	}
}

// TestApart: what is done to one bucket isn't seen at another one.
func TestApart(t *testing.T) {
	a, b := made(t, 3, 8), made(t, 3, 8)
	a.take(t, 5)
	b.asked(t)
	b.tick(t, 2)
	a.asked(t)
	a.change(t, 1, 2)
	b.take(t, 8)
	a.tick(t, 1)
	b.asked(t)
}

// shared: what Share should tell of weights that may be, in numbers of any length.
func shared(rate int, weights []int) []int {
	sum := new(big.Int)
	for _, w := range weights {
		sum.Add(sum, big.NewInt(int64(w)))
	}
	left := rate
	parts := make([]int, len(weights))
	for i, w := range weights {
		part := new(big.Int).Mul(big.NewInt(int64(rate)), big.NewInt(int64(w)))
		parts[i] = int(part.Div(part, sum).Int64())
		left -= parts[i]
	}
	for left > 0 {
		for i, w := range weights {
			if left > 0 && w != 0 {
				parts[i]++
				left--
			}
		}
	}
	return parts
}

// parted: is a rate parted as it should be, wholly (P12.5), and are the weights left as they are?
func parted(t *testing.T, rate int, weights ...int) {
	t.Helper()
	given := slices.Clone(weights)
	got, e := Share(rate, given...)
	if want := shared(rate, weights); e != api.OK || !slices.Equal(got, want) {
		t.Fatalf("Share(%d, %v): %v, %d, not %v", rate, weights, got, e, want)
	}
	sum := 0
	for _, n := range got {
		sum += n
	}
	if sum != rate {
		t.Fatalf("Share(%d, %v): %v, which is %d together", rate, weights, got, sum)
	}
	if !slices.Equal(given, weights) {
		t.Fatalf("Share(%d, %v) made the weights %v", rate, weights, given)
	}
}

// refused: is it ErrRange, with nothing beside it?
func refused(t *testing.T, rate int, weights ...int) {
	t.Helper()
	if got, e := Share(rate, weights...); e != api.ErrRange || len(got) != 0 {
		t.Errorf("Share(%d) among %d: %v, %d", rate, len(weights), got, e)
	}
}

// rows: each row of so many weights from 0 to kinds - 1.
func rows(count, kinds int) [][]int {
	if count == 0 {
		return [][]int{nil}
	}
	var list [][]int
	for _, row := range rows(count-1, kinds) {
		for weight := range kinds {
			list = append(list, append(slices.Clone(row), weight))
		}
	}
	return list
}

// TestShare: P12.3: each row of few small weights, by each small rate; a row of noughts is refused.
func TestShare(t *testing.T) {
	for count := range 6 {
		for _, row := range rows(count, 4) {
			for rate := range 12 {
				if slices.IndexFunc(row, func(w int) bool { return w > 0 }) < 0 {
					refused(t, rate, row...)
				} else {
					parted(t, rate, row...)
				}
			}
		}
	}
}

// TestShareByHand: P12.3: some that are reckoned by hand.
func TestShareByHand(t *testing.T) {
	for _, w := range []struct {
		rate          int
		weights, want []int
	}{
		{0, []int{1}, []int{0}},
		{7, []int{65536}, []int{7}},
		{0, []int{3, 0, 5}, []int{0, 0, 0}},
		{1, []int{1, 1000}, []int{1, 0}},
		{1, []int{0, 1, 1000}, []int{0, 1, 0}},
		{10, []int{3, 1}, []int{8, 2}},
		{10, []int{1, 3}, []int{3, 7}},
		{5, []int{0, 1, 0, 1, 0}, []int{0, 3, 0, 2, 0}},
		{11, []int{1, 1, 1, 1}, []int{3, 3, 3, 2}},
		{100, []int{2, 0, 1}, []int{67, 0, 33}},
		{1 << 20, []int{1, 2}, []int{349526, 699050}},
		{1 << 20, []int{65536, 65536}, []int{524288, 524288}},
		{1 << 20, []int{65536, 1}, []int{1048561, 15}},
	} {
		if got, e := Share(w.rate, w.weights...); e != api.OK || !slices.Equal(got, w.want) {
			t.Errorf("Share(%d, %v): %v, %d, not %v", w.rate, w.weights, got, e, w.want)
		}
	}
}

// weights: so many, of all sizes that may be, noughts among them, and the first of them 1 or more.
func weights(seed, count int) []int {
	list := make([]int, count)
	for i := range list {
		b := mixed.Bytes(seed*1000+i, 3)
		list[i] = (int(b[0])<<8 + int(b[1])) >> (b[2] % 18)
	}
	list[0]++
	return list
}

// TestShareMany: P12.3: up to the greatest number of weights, of all sizes, by rates of all sizes.
func TestShareMany(t *testing.T) {
	for seed, count := range []int{1, 2, 3, 4, 5, 9, 30, 100, 255, 256} {
		for again := range 6 {
			list := weights(seed*10+again, count)
			for _, rate := range []int{0, 1, count - 1, count, count + 1, 255, 256, 1000, 65535, 65536, 1000003, 1<<20 - 1, 1 << 20} {
				parted(t, rate, list...)
			}
		}
	}
}

// TestShareLeftOver: P12.3: where nearly a whole one is left over for each weight, and where only the last one weighs anything.
func TestShareLeftOver(t *testing.T) {
	for _, count := range []int{1, 2, 3, 255, 256} {
		even, last := slices.Repeat([]int{65536}, count), make([]int, count)
		last[count-1] = 1
		for rate := range 2*count + 1 {
			parted(t, rate, even...)
			parted(t, rate, last...)
		}
		for less := range count + 1 {
			parted(t, 1<<20-less, even...)
		}
	}
}

// TestShareRange: P12.3: rates, weights and numbers of weights that may not be, alone and together; those at the limits may.
func TestShareRange(t *testing.T) {
	for _, rate := range []int{0, 1, 1<<20 - 1, 1 << 20} {
		parted(t, rate, 1, 2)
	}
	wrong := []int{math.MinInt, math.MinInt + 1, -1 << 32, -1, 1<<20 + 1, 1 << 32, 1<<32 + 1, math.MaxInt - 1, math.MaxInt}
	for _, rate := range wrong {
		refused(t, rate, 1)
		refused(t, rate, 1, 2, 3)
		refused(t, rate)
		refused(t, rate, -1)
	}
	parted(t, 10, 0, 1, 65535, 65536)
	for _, w := range append(wrong, 65537) {
		refused(t, 10, w)
		refused(t, 10, 1, w)
		refused(t, 10, w, 65536, 0)
		refused(t, 0, 0, w)
		refused(t, 10, w, -w)
		refused(t, 10, slices.Repeat([]int{w}, 256)...)
	}
	for _, count := range []int{0, 1, 2, 255, 256, 257, 1000} {
		ones := slices.Repeat([]int{1}, count)
		refused(t, 10, make([]int, count)...)
		if count >= 1 && count <= 256 {
			parted(t, 10, ones...)
		} else {
			refused(t, 10, ones...)
		}
	}
	refused(t, 10)
	refused(t, 10, []int{}...)
	refused(t, 10, append(make([]int, 256), 1)...)
}

// TestShareOwn: the weights' spare room is left alone, and an answer is its user's own.
func TestShareOwn(t *testing.T) {
	room := []int{1, 1, 1, 9, 9}
	first, _ := Share(10, room[:3]...)
	second, _ := Share(10, room[:3]...)
	first[0] = 77
	_ = append(first, 5, 6)
	if !slices.Equal(room, []int{1, 1, 1, 9, 9}) || !slices.Equal(second, []int{4, 3, 3}) {
		t.Errorf("the weights are %v, another answer %v", room, second)
	}
	room[1] = 0
	if !slices.Equal(first, []int{77, 3, 3}) || !slices.Equal(second, []int{4, 3, 3}) {
		t.Errorf("the answers are %v and %v", first, second)
	}
}
