package path

import (
	"encoding/binary"
	"math"
	"slices"
	"testing"

	"backstay/api"
	"backstay/mixed"
	"backstay/seq"
	"backstay/stats"
)

// tries: at which quiet ticks a way is tried, up to so many: at the 20th, then behind 5, 10, 20, 40 more, then behind 80 again and again.
func tries(most int) []int {
	list := []int{20, 25, 35, 55, 95}
	for last := 175; last <= most; last += 80 {
		list = append(list, last)
	}
	return list
}

// plain is what a way should be: what it does is told by how long it is quiet alone, not by steps.
type plain struct {
	stats.Stats
	seen  seq.Seen
	quiet int
	next  uint32
}

// tried: is it to be tried in this quiet tick?
func (p *plain) tried() bool { return slices.Contains(tries(p.quiet), p.quiet) }

// probe: in how many ticks it is tried next, and in how many behind that; noughts, while it is alive.
func (p *plain) probe() (int, int) {
	if p.quiet < 20 {
		return 0, 0
	}
	list := tries(p.quiet + 200)
	i, _ := slices.BinarySearch(list, p.quiet+1)
	return list[i] - p.quiet, list[i+1] - list[i]
}

// heard: what Heard should tell.
func (p *plain) heard(n uint32) api.Errno {
	was := p.seen
	e := p.seen.Take(n)
	p.quiet = 0
	if e == api.OK {
		for i := was.Lost; was.Any && i < p.seen.Lost && i < was.Lost+64; i++ {
			p.Mark(true)
		}
		p.Mark(false)
	}
	return e
}

// state: what State should tell.
func (p *plain) state() int {
	if p.quiet < 20 {
		return 0
	}
	if p.quiet < 60 {
		return 1
	}
	return 2
}

// path: what the fields should be.
func (p *plain) path() Path {
	probe, gap := p.probe()
	return Path{Stats: p.Stats, Seen: p.seen, Quiet: p.quiet, Probe: probe, Gap: gap, Next: p.next}
}

// pair is a way, and what it should be.
type pair struct {
	*Path
	plain *plain
}

// made: both, as they begin.
func made() pair { return pair{new(Path), new(plain)} }

// asked: are the fields, and how it is, as they should be?
func (p pair) asked(t *testing.T) {
	t.Helper()
	if *p.Path != p.plain.path() {
		t.Fatalf("%+v, not %+v", *p.Path, p.plain.path())
	}
	if got, want := p.State(), p.plain.state(); got != want {
		t.Fatalf("State at %d: %d, not %d", p.Quiet, got, want)
	}
	if *p.Path != p.plain.path() {
		t.Fatalf("State made %+v of %+v", *p.Path, p.plain.path())
	}
}

// Each of these does the same to both, and asks what came of it.

func (p pair) tick(t *testing.T) {
	t.Helper()
	p.plain.quiet++
	if got, want := p.Tick(), p.plain.tried(); got != want {
		t.Fatalf("Tick %d: %t, not %t", p.plain.quiet, got, want)
	}
	p.asked(t)
}

func (p pair) heard(t *testing.T, n uint32) {
	t.Helper()
	was := *p.Path
	if got, want := p.Heard(n), p.plain.heard(n); got != want {
		t.Fatalf("Heard(%d) at %+v: %d, not %d", n, was, got, want)
	}
	p.asked(t)
}

func (p pair) number(t *testing.T) {
	t.Helper()
	want := p.plain.next
	p.plain.next++
	if got := p.Number(); got != want {
		t.Fatalf("Number: %d, not %d", got, want)
	}
	p.asked(t)
}

// ticks: a way behind so many quiet ticks.
func ticks(count int) *Path {
	p := new(Path)
	for range count {
		p.Tick()
	}
	return p
}

// lossy: a way of which so many were lost, whose trips last so long.
func lossy(losses, trip int) *Path {
	p := new(Path)
	for range losses {
		p.Mark(true)
	}
	p.Trip(trip)
	return p
}

// The chapter's example.
func TestExample(t *testing.T) {
	var p Path
	var at []int
	for n := 1; n <= 60; n++ {
		if p.Tick() {
			at = append(at, n)
		}
		if n == 20 && p.State() != Suspect {
			t.Errorf("behind 20 ticks: %d", p.State())
		}
	}
	if !slices.Equal(at, []int{20, 25, 35, 55}) {
		t.Errorf("tried at %v", at)
	}
}

// The zero Path is as it begins; the numbers that have names.
func TestZero(t *testing.T) {
	p := made()
	p.asked(t)
	p.number(t)
	p.heard(t, 9)
	if Alive != 0 || Suspect != 1 || Dead != 2 {
		t.Errorf("%d, %d, %d", Alive, Suspect, Dead)
	}
	if SuspectTicks != 20 || DeadTicks != 60 || FirstProbe != 5 || LastProbe != 80 {
		t.Errorf("%d, %d, %d, %d", SuspectTicks, DeadTicks, FirstProbe, LastProbe)
	}
}

// P14.1: State at each edge; it hangs on Quiet alone, and changes nothing.
func TestState(t *testing.T) {
	for _, c := range []struct{ quiet, want int }{
		{0, Alive}, {1, Alive}, {19, Alive}, {20, Suspect}, {21, Suspect}, {59, Suspect}, {60, Dead}, {61, Dead}, {80, Dead}, {1 << 30, Dead},
	} {
		for _, p := range []Path{{}, {Probe: 7, Gap: 80}, {Stats: stats.Stats{Loss: 65535}, Seen: seq.Seen{Any: true}, Next: 8}} {
			p.Quiet = c.quiet
			was := p
			if got := p.State(); got != c.want || p != was {
				t.Errorf("State at %d: %d, not %d; %+v", c.quiet, got, c.want, p)
			}
		}
	}
	for count := range 100 {
		want := Alive
		if count >= 60 {
			want = Dead
		} else if count >= 20 {
			want = Suspect
		}
		if got := ticks(count).State(); got != want {
			t.Errorf("State behind %d ticks: %d, not %d", count, got, want)
		}
	}
}

// P14.1, P14.4: when it is tried, and what the fields are, for a long quiet time.
func TestTick(t *testing.T) {
	p := made()
	for range 2000 {
		p.tick(t)
	}
}

// P14.1: the fields around the first tries, as numbers.
func TestTickNumbers(t *testing.T) {
	for _, c := range []struct {
		count, probe, gap int
		tried             bool
	}{
		{1, 0, 0, false}, {19, 0, 0, false}, {20, 5, 10, true}, {21, 4, 10, false}, {24, 1, 10, false}, {25, 10, 20, true}, {26, 9, 20, false}, {34, 1, 20, false}, {35, 20, 40, true}, {54, 1, 40, false},
		{55, 40, 80, true}, {59, 36, 80, false}, {60, 35, 80, false}, {94, 1, 80, false}, {95, 80, 80, true}, {96, 79, 80, false}, {174, 1, 80, false}, {175, 80, 80, true}, {255, 80, 80, true},
	} {
		p := ticks(c.count - 1)
		if got := p.Tick(); got != c.tried || *p != (Path{Quiet: c.count, Probe: c.probe, Gap: c.gap}) {
			t.Errorf("Tick %d: %t, %+v, not %+v", c.count, got, *p, c)
		}
	}
}

// P14.1: while it is alive a tick leaves no try behind, wherever one came from.
func TestTickAlive(t *testing.T) {
	for _, quiet := range []int{0, 1, 10, 18} {
		p := Path{Quiet: quiet, Probe: 1, Gap: 40, Next: 3}
		if p.Tick() || p != (Path{Quiet: quiet + 1, Next: 3}) {
			t.Errorf("Tick at %d: %+v", quiet, p)
		}
	}
}

// P14.1: Quiet goes no further than 2^30; a way is tried all the same.
func TestTickMost(t *testing.T) {
	p := Path{Quiet: 1<<30 - 3, Probe: 4, Gap: 80}
	for i, c := range []struct {
		quiet, probe int
		tried        bool
	}{{1<<30 - 2, 3, false}, {1<<30 - 1, 2, false}, {1 << 30, 1, false}, {1 << 30, 80, true}, {1 << 30, 79, false}} {
		if got := p.Tick(); got != c.tried || p != (Path{Quiet: c.quiet, Probe: c.probe, Gap: 80}) {
			t.Fatalf("Tick %d: %t, %+v", i, got, p)
		}
	}
	for count := 78; count > 0; count-- {
		if p.Tick() || p.Quiet != 1<<30 || p.Probe != count {
			t.Fatalf("%d ticks ahead of the try: %+v", count, p)
		}
	}
	if !p.Tick() {
		t.Errorf("it isn't tried: %+v", p)
	}
}

// P14.4: as long as nothing is heard it is tried again and again, but never more often than every fifth tick; nothing else that a way has changes by that.
func TestTickFifth(t *testing.T) {
	p := Path{Stats: stats.Stats{Loss: 300, Rtt: 20, Var: 7, Marks: 5, Trips: 3}, Next: 77}
	p.Heard(5)
	was := p
	last, count := 0, 0
	for n := 1; n <= 5000; n++ {
		if p.Tick() {
			if apart := n - last; count == 0 && n != 20 || count > 0 && (apart < 5 || apart > 80) {
				t.Fatalf("tried at %d, ahead of it at %d", n, last)
			}
			last, count = n, count+1
		}
	}
	if count != 5+61 {
		t.Errorf("tried %d times", count)
	}
	if p.Stats != was.Stats || p.Seen != was.Seen || p.Next != was.Next {
		t.Errorf("%+v of %+v", p, was)
	}
}

// P14.2, P14.5: whatever is heard, at each length of quiet, makes it alive; the tries begin anew then.
func TestHeardAlive(t *testing.T) {
	for count := range 300 {
		for _, n := range []uint32{100, 101, 99, 36, 90, 164, 1000} { // twice, newer ones, an older one, too old ones
			p := made()
			p.heard(t, 90)
			p.heard(t, 100)
			for range count {
				p.tick(t)
			}
			p.heard(t, n)
			if p.State() != Alive || p.Quiet != 0 || p.Probe != 0 || p.Gap != 0 {
				t.Fatalf("Heard(%d) behind %d ticks: %+v", n, count, *p.Path)
			}
			for range 60 {
				p.tick(t)
			}
		}
	}
}

// P14.2: the error is that of Seen; with one nothing is marked, and the way has been heard all the same.
func TestHeardErrors(t *testing.T) {
	p := ticks(1)
	top := uint32(7)
	for i, c := range []struct {
		n            uint32
		want         api.Errno
		marks, twice int
	}{
		{5, api.OK, 1, 0}, {5, api.ErrTwice, 1, 1}, {top, api.OK, 4, 1}, {5, api.ErrTwice, 4, 2}, {6, api.OK, 5, 2}, {top - 63, api.OK, 6, 2}, {top - 63, api.ErrTwice, 6, 3},
		{top - 64, api.ErrOld, 6, 3}, {top - 1<<20, api.ErrOld, 6, 3}, {top - 1<<31, api.ErrOld, 6, 3}, {top, api.ErrTwice, 6, 4},
	} {
		for range 30 {
			p.Tick()
		}
		was := p.Stats
		if got := p.Heard(c.n); got != c.want || p.Marks != c.marks || p.Seen.Twice != c.twice || got != api.OK && p.Stats != was {
			t.Errorf("step %d: Heard(%d): %d, %+v, not %+v", i, c.n, got, *p, c)
		}
		if p.Quiet != 0 || p.Probe != 0 || p.Gap != 0 || p.State() != Alive {
			t.Errorf("step %d: it isn't alive: %+v", i, *p)
		}
	}
}

// P14.2: nothing is lost by the first one, whatever its number is.
func TestHeardFirst(t *testing.T) {
	for _, n := range []uint32{0, 1, 63, 64, 1000, 1 << 31, math.MaxUint32} {
		var p Path
		if e := p.Heard(n); e != api.OK || p != (Path{Stats: stats.Stats{Marks: 1}, Seen: seq.Seen{Any: true, Top: n, Bits: 1, Came: 1}}) {
			t.Errorf("Heard(%d): %d, %+v", n, e, p)
		}
	}
}

// P14.2: what goes out of the last 64 without having come is marked as lost, at most 64 of it at once; then the one that came is marked.
func TestHeardLost(t *testing.T) {
	for _, c := range []struct {
		by   uint32
		lost int
	}{{1, 1}, {2, 2}, {10, 10}, {62, 62}, {63, 63}, {64, 63}, {65, 64}, {66, 64}, {67, 64}, {1000, 64}, {1<<31 - 1, 64}} {
		for _, from := range []uint32{0, 70, math.MaxUint32 - 5} {
			var p Path
			p.Heard(from)
			want := p.Stats
			for range c.lost {
				want.Mark(true)
			}
			want.Mark(false)
			if e := p.Heard(from + c.by); e != api.OK || p.Stats != want || p.Seen.Came != 2 {
				t.Errorf("Heard of %d and %d: %d, %+v, not %+v", from, from+c.by, e, p.Stats, want)
			}
		}
	}
	var p Path
	for n := range uint32(200) { // all come, so that only the 63 ahead of the first one are lost
		p.Heard(n)
	}
	if p.Marks != 200+63 || p.Seen.Lost != 63 {
		t.Errorf("where all come: %+v", p)
	}
	for n := uint32(263); n > 200; n-- { // the newest one first; the others behind it lose nothing
		p.Heard(n)
	}
	if p.Marks != 263+63 || p.Seen.Lost != 63 {
		t.Errorf("where the newest one comes first: %+v", p)
	}
}

// P14.2: losses are marked ahead of what came, and not behind it.
func TestHeardOrder(t *testing.T) {
	var p Path
	p.Heard(10)
	p.Heard(11)
	if p.Loss != 3839 || p.Marks != 3 { // 4095 by the loss; then a 16th less, rounded down
		t.Errorf("%+v", p)
	}
}

// P14.2: numbers go round, by and by, whatever else is called.
func TestNumber(t *testing.T) {
	for _, from := range []uint32{0, 1<<31 - 2, math.MaxUint32 - 2} {
		p := made()
		p.Next, p.plain.next = from, from
		for range 6 {
			p.number(t)
			p.tick(t)
			p.heard(t, from)
		}
		if p.Next != from+6 {
			t.Errorf("%d from %d", p.Next, from)
		}
	}
}

// How a way has done is asked of the way itself.
func TestPromoted(t *testing.T) {
	p := made()
	p.heard(t, 1)
	p.Trip(4)
	p.plain.Trip(4)
	p.asked(t)
	if p.Rtt != 32 || p.Trips != 1 || p.Wait() != 12 || p.Score() != p.Stats.Score() || p.Need(4, 10) != 4 {
		t.Errorf("%+v", *p.Path)
	}
}

// P14.3: some lists, by hand.
func TestOrderNumbers(t *testing.T) {
	good, slow, bad := lossy(0, 0), lossy(0, 9), lossy(3, 0)
	suspect, dead := ticks(20), ticks(60)
	badSuspect := lossy(9, 100)
	badSuspect.Quiet = 59
	for i, c := range []struct {
		list []*Path
		want []int
	}{
		{nil, nil}, {[]*Path{dead}, []int{0}}, {[]*Path{good, good}, []int{0, 1}}, {[]*Path{good, slow}, []int{0, 1}}, {[]*Path{slow, good}, []int{1, 0}}, {[]*Path{bad, good}, []int{1, 0}},
		{[]*Path{dead, suspect, bad}, []int{2, 1, 0}}, {[]*Path{suspect, slow}, []int{1, 0}}, {[]*Path{dead, badSuspect}, []int{1, 0}}, {[]*Path{badSuspect, suspect}, []int{1, 0}}, {[]*Path{ticks(19), ticks(0)}, []int{0, 1}},
		{[]*Path{ticks(59), ticks(20), ticks(30)}, []int{0, 1, 2}}, {[]*Path{ticks(900), ticks(60)}, []int{0, 1}},
		{[]*Path{dead, slow, dead, good, slow, suspect, good}, []int{3, 6, 1, 4, 5, 0, 2}},
	} {
		if got := Order(c.list...); !slices.Equal(got, c.want) {
			t.Errorf("list %d: %v, not %v", i, got, c.want)
		}
	}
}

// P14.3: long lists of all kinds: what goes first is less in state, greater in score, or stands first; each is told once.
func TestOrder(t *testing.T) {
	for seed := range 200 {
		var list []*Path
		for _, b := range mixed.Bytes(seed, seed) {
			p := lossy(int(b)%4, int(b/4)%4)
			p.Quiet = []int{0, 19, 20, 59, 60, 100}[int(b/16)%6]
			list = append(list, p)
		}
		var was []Path
		for _, p := range list {
			was = append(was, *p)
		}
		handed := slices.Clone(list)
		got := Order(list...)
		if len(got) != len(list) || !slices.Equal(list, handed) {
			t.Fatalf("%d of %d", len(got), len(list))
		}
		for i, n := range got {
			if *list[n] != was[n] {
				t.Fatalf("Order made %+v of %+v", *list[n], was[n])
			}
			if i == 0 {
				continue
			}
			last := got[i-1]
			a, b := list[last], list[n]
			if a.State() > b.State() || a.State() == b.State() && (a.Score() < b.Score() || a.Score() == b.Score() && last >= n) {
				t.Fatalf("%d, %+v, ahead of %d, %+v", last, *a, n, *b)
			}
		}
	}
}

// P2: what Order answers is new memory.
func TestOrderNew(t *testing.T) {
	list := []*Path{ticks(20), ticks(0)}
	a, b := Order(list...), Order(list...)
	a[0], a[1] = 7, 8
	if !slices.Equal(b, []int{1, 0}) || !slices.Equal(Order(list...), []int{1, 0}) {
		t.Errorf("%v", b)
	}
}

// All calls, mixed, in long rows; most numbers are near the newest one, going round.
func TestMany(t *testing.T) {
	for seed := range 60 {
		p := made()
		from := binary.LittleEndian.Uint32(mixed.Bytes(seed, 4))
		if seed%2 == 0 {
			from = math.MaxUint32 - uint32(seed)*7
		}
		p.Next, p.plain.next = from, from
		steps := mixed.Bytes(seed+500, 600)
		for i := 0; i < len(steps); i += 2 {
			by := uint32(steps[i+1])
			switch steps[i] % 8 {
			case 0:
				for range by {
					p.tick(t)
				}
			case 1:
				p.number(t)
			case 2:
				p.heard(t, from-by)
			case 3:
				from += by
				p.heard(t, from)
			case 4:
				p.Trip(int(by))
				p.plain.Trip(int(by))
				p.asked(t)
			default:
				from += by % 4
				p.heard(t, from)
				p.tick(t)
			}
		}
	}
}

// A copy goes its own way.
func TestApart(t *testing.T) {
	a := ticks(30)
	a.Heard(7)
	b := *a
	b.Heard(8)
	b.Tick()
	b.Number()
	b.Trip(9)
	if *a != (Path{Stats: stats.Stats{Marks: 1}, Seen: seq.Seen{Any: true, Top: 7, Bits: 1, Came: 1}}) {
		t.Errorf("%+v", *a)
	}
}

// P1: of ways that no call made nothing is promised but that the calls end.
func TestEnds(t *testing.T) {
	edges := []int{0, 1, -1, 19, 60, 1 << 30, 1<<30 + 1, math.MaxInt, math.MinInt}
	for _, a := range edges {
		for _, b := range edges {
			for _, c := range edges {
				p := Path{Stats: stats.Stats{Loss: a, Rtt: b, Var: c}, Seen: seq.Seen{Any: a > 0, Bits: uint64(b), Lost: c}, Quiet: a, Probe: b, Gap: c, Next: uint32(a)}
				other := p
				Order(&p, &other, new(Path))
				p.Tick()
				p.Tick()
				p.Heard(uint32(b))
				other.Heard(uint32(c))
				p.State()
				p.Number()
			}
		}
	}
}
