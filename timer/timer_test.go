package timer

import (
	"cmp"
	"math"
	"slices"
	"testing"

	"backstay/api"
	"backstay/mixed"
	"backstay/told"
)

// start is a key that was started, and the time till which it runs, or the ticks that are left till then.
type start = told.Pair[string, int64]

// plain keeps what runs as it was started, and looks through all of it for each answer.
type plain struct {
	room   int
	now    int64
	starts []start
}

// stop: what Stop should tell.
func (p *plain) stop(key string) bool {
	var others []start
	for _, one := range p.starts {
		if one.Key != key {
			others = append(others, one)
		}
	}
	ran := len(others) < len(p.starts)
	p.starts = others
	return ran
}

// start: what Start should tell.
func (p *plain) start(key string, ticks int64) api.Errno {
	if ticks < 1 || ticks > 1<<40 {
		return api.ErrRange
	}
	if _, runs := p.left(key); !runs && len(p.starts) >= p.room {
		return api.ErrLong
	}
	p.stop(key)
	p.starts = append(p.starts, start{Key: key, Value: p.now + ticks})
	return api.OK
}

// left: what Left should tell.
func (p *plain) left(key string) (int64, bool) {
	for _, one := range p.starts {
		if one.Key == key {
			return one.Value - p.now, true
		}
	}
	return 0, false
}

// all: what All should go over.
func (p *plain) all() []start {
	var list []start
	for _, one := range p.starts {
		list = append(list, start{Key: one.Key, Value: one.Value - p.now})
	}
	slices.SortStableFunc(list, func(a, b start) int { return cmp.Compare(a.Value, b.Value) })
	return list
}

// next: what Next should tell.
func (p *plain) next() (int64, bool) {
	for _, one := range p.all() {
		return one.Value, true
	}
	return 0, false
}

// tick: what Tick should tell.
func (p *plain) tick(ticks int64) []string {
	if ticks > 0 {
		p.now = min(p.now+min(ticks, 1<<40), 1<<40)
	}
	var keys []string
	for _, one := range p.all() {
		if one.Value <= 0 {
			keys = append(keys, one.Key)
		}
	}
	for _, key := range keys {
		p.stop(key)
	}
	return keys
}

// pair is a set, and what it should be.
type pair struct {
	*Set[string]
	plain *plain
}

// made: both without keys.
func made(t *testing.T, room int) pair {
	t.Helper()
	s, e := New[string](room)
	if e != api.OK || s == nil {
		t.Fatalf("New(%d): %d", room, e)
	}
	p := pair{s, &plain{room: room}}
	p.asked(t)
	return p
}

// names: keys that are asked of.
var names = []string{"", "a", "b", "c", "d", "e", "f", "g"}

// asked: do the calls that change nothing tell what they should?
func (p pair) asked(t *testing.T) {
	t.Helper()
	if p.Now() != p.plain.now || p.Len() != len(p.plain.starts) {
		t.Fatalf("it is %d, %d run, not %+v", p.Now(), p.Len(), *p.plain)
	}
	for _, key := range names {
		left, runs := p.Left(key)
		if wl, wr := p.plain.left(key); left != wl || runs != wr {
			t.Fatalf("Left(%q): %d, %t, not %d, %t", key, left, runs, wl, wr)
		}
	}
	next, some := p.Next()
	if wn, wa := p.plain.next(); next != wn || some != wa {
		t.Fatalf("Next: %d, %t, not %d, %t", next, some, wn, wa)
	}
	if got, want := told.All(p.All()), p.plain.all(); !slices.Equal(got, want) {
		t.Fatalf("All: %v, not %v", got, want)
	}
}

// Each of these does the same to both, and asks what came of it.

func (p pair) start(t *testing.T, key string, ticks int64) {
	t.Helper()
	got := p.Start(key, ticks)
	if want := p.plain.start(key, ticks); got != want {
		t.Fatalf("Start(%q, %d): %d, not %d", key, ticks, got, want)
	}
	p.asked(t)
}

func (p pair) stop(t *testing.T, key string) {
	t.Helper()
	got := p.Stop(key)
	if want := p.plain.stop(key); got != want {
		t.Fatalf("Stop(%q): %t, not %t", key, got, want)
	}
	p.asked(t)
}

func (p pair) tick(t *testing.T, ticks int64) {
	t.Helper()
	got := p.Tick(ticks)
	if want := p.plain.tick(ticks); !slices.Equal(got, want) {
		t.Fatalf("Tick(%d): %v, not %v", ticks, got, want)
	}
	p.asked(t)
}

func (p pair) clear(t *testing.T) {
	t.Helper()
	got := p.Clear()
	if want := len(p.plain.starts); got != want {
		t.Fatalf("Clear: %d, not %d", got, want)
	}
	p.plain.starts = nil
	p.asked(t)
}

// running: a set of that room in which the first names run, due in these ticks.
func running(t *testing.T, room int, ticks ...int64) pair {
	t.Helper()
	p := made(t, room)
	for i, one := range ticks {
		p.start(t, names[1+i], one)
	}
	return p
}

// TestExample: the chapter's own.
func TestExample(t *testing.T) {
	s, e := New[int](2)
	if e != api.OK {
		t.Fatal(e)
	}
	if a, b := s.Start(7, 3), s.Start(8, 2); a != api.OK || b != api.OK {
		t.Errorf("Start: %d, %d", a, b)
	}
	for i, w := range []struct {
		ticks int64
		keys  []int
	}{{2, []int{8}}, {1, []int{7}}, {5, nil}} {
		if keys := s.Tick(w.ticks); !slices.Equal(keys, w.keys) {
			t.Errorf("Tick %d: %v, not %v", i, keys, w.keys)
		}
	}
}

// TestNew: P11.1: of the rooms that may be, and of others.
func TestNew(t *testing.T) {
	for _, room := range []int{1, 2, 3, 255, 256} {
		s, e := New[int](room)
		if s == nil || e != api.OK || s.Now() != 0 || s.Len() != 0 {
			t.Fatalf("New(%d): %d", room, e)
		}
		for key := range room {
			if e := s.Start(key, 1); e != api.OK {
				t.Fatalf("room %d, key %d: %d", room, key, e)
			}
		}
		if e := s.Start(room, 1); e != api.ErrLong || s.Len() != room {
			t.Errorf("room %d: %d, %d run", room, e, s.Len())
		}
	}
	for _, room := range []int{math.MinInt, -256, -1, 0, 257, 258, 1 << 32, 1<<32 + 1, math.MaxInt} {
		if s, e := New[int](room); s != nil || e != api.ErrRange {
			t.Errorf("New(%d): %v, %d", room, s, e)
		}
	}
}

// TestNothing: what a set tells in which nothing runs.
func TestNothing(t *testing.T) {
	p := made(t, 3)
	p.stop(t, "a")
	p.stop(t, "")
	p.clear(t)
	p.tick(t, 0)
	p.tick(t, 7)
	p.clear(t)
}

// TestStartRange: P11.1: of the ticks that may be, and of others: these change nothing, whether the key runs or not, and are told ahead of that there is no room.
func TestStartRange(t *testing.T) {
	for _, ticks := range []int64{math.MinInt64, -1 << 40, -1, 0, 1, 2, 1<<40 - 1, 1 << 40, 1<<40 + 1, 1 << 41, math.MaxInt64} {
		want := api.OK
		if ticks < 1 || ticks > 1<<40 {
			want = api.ErrRange
		}
		p := running(t, 3, 4, 4)
		if e := p.Set.Start("c", ticks); e != want {
			t.Errorf("Start in %d: %d, not %d", ticks, e, want)
		}
		p.plain.start("c", ticks)
		p.asked(t)
		p.start(t, "a", ticks)
		p.start(t, "c", 5)
		p.start(t, "d", ticks)
		p.start(t, "c", ticks)
		p.tick(t, 1)
		p.start(t, "b", ticks)
		p.tick(t, 4)
	}
}

// TestNoRoom: P11.1: a key that doesn't run is refused, and changes nothing; one that runs isn't; room comes back with each one that goes.
func TestNoRoom(t *testing.T) {
	for _, room := range []int{1, 2, 3, 4} {
		for _, act := range []func(p pair){
			func(p pair) { p.stop(t, "a") },
			func(p pair) { p.stop(t, "") },
			func(p pair) { p.tick(t, 2) },
			func(p pair) { p.tick(t, 3) },
			func(p pair) { p.clear(t) },
		} {
			p := running(t, room, []int64{3, 3, 5, 3}[:room]...)
			if e := p.Start("g", 1); e != api.ErrLong {
				t.Errorf("room %d: %d", room, e)
			}
			p.asked(t)
			for _, key := range names {
				p.start(t, key, 3)
			}
			act(p)
			for _, key := range names {
				p.start(t, key, 2)
			}
			p.tick(t, 9)
		}
	}
}

// rows: each row of so many numbers of ticks from 1 to kinds.
func rows(count, kinds int) [][]int64 {
	if count == 0 {
		return [][]int64{nil}
	}
	var list [][]int64
	for _, row := range rows(count-1, kinds) {
		for ticks := range kinds {
			list = append(list, append(slices.Clone(row), int64(ticks)+1))
		}
	}
	return list
}

// TestAllRows: P11.2 to P11.4: each row of few ticks is started, and all comes, in steps of each size.
func TestAllRows(t *testing.T) {
	for _, row := range rows(5, 3) {
		for step := int64(1); step <= 4; step++ {
			p := running(t, 5, row...)
			for range 4 {
				p.tick(t, step)
			}
		}
	}
}

// TestAnew: P11.1, P11.2: one that ran is due anew, and is the last started one, at each place and each time, also where it's due when it was.
func TestAnew(t *testing.T) {
	for _, row := range rows(4, 3) {
		for _, key := range names[1:5] {
			for ticks := int64(1); ticks <= 4; ticks++ {
				p := running(t, 4, row...)
				p.start(t, key, ticks)
				p.tick(t, 1)
				p.start(t, key, ticks)
				p.tick(t, 1)
				p.tick(t, 1)
				p.tick(t, 2)
			}
		}
	}
}

// TestStop: P11.1: each choice of keys is stopped; the others come as they would.
func TestStop(t *testing.T) {
	for _, row := range [][]int64{{1, 1, 1, 1}, {4, 3, 2, 1}, {1, 2, 3, 4}, {2, 1, 2, 1}} {
		for choice := range 1 << len(row) {
			for _, ahead := range []int64{0, 1} {
				p := running(t, 4, row...)
				p.tick(t, ahead)
				for i, key := range names[1:5] {
					if choice>>i&1 == 1 {
						p.stop(t, key)
						p.stop(t, key)
					}
				}
				p.start(t, "g", 1)
				for range 4 {
					p.tick(t, 1)
				}
			}
		}
	}
}

// TestClear: P11.1: how many ran; the time stays as it is, and all may be started again.
func TestClear(t *testing.T) {
	for count := range 5 {
		p := running(t, 4, []int64{9, 1, 5, 5}[:count]...)
		p.tick(t, 2)
		p.clear(t)
		p.clear(t)
		if p.Now() != 2 {
			t.Errorf("it is %d", p.Now())
		}
		p.tick(t, 20)
		for _, key := range names {
			p.start(t, key, 2)
		}
		p.tick(t, 2)
	}
}

// TestTick: P11.3: time doesn't go back, and goes no further than it may, however many ticks are asked for.
func TestTick(t *testing.T) {
	for _, w := range []struct{ at, ticks, now int64 }{
		{0, 0, 0}, {0, 1, 1}, {0, -1, 0}, {0, math.MinInt64, 0}, {0, 1 << 40, 1 << 40}, {0, 1<<40 + 1, 1 << 40}, {0, math.MaxInt64, 1 << 40},
		{5, 0, 5}, {5, 1, 6}, {5, -1, 5}, {5, -5, 5}, {5, math.MinInt64, 5}, {5, 1<<40 - 6, 1<<40 - 1}, {5, 1<<40 - 5, 1 << 40}, {5, 1<<40 - 4, 1 << 40}, {5, 1 << 40, 1 << 40}, {5, math.MaxInt64, 1 << 40},
		{1 << 40, 0, 1 << 40}, {1 << 40, 1, 1 << 40}, {1 << 40, -1, 1 << 40}, {1 << 40, math.MinInt64, 1 << 40}, {1 << 40, math.MaxInt64, 1 << 40},
	} {
		p := made(t, 4)
		p.tick(t, w.at)
		p.start(t, "a", 1)
		p.start(t, "b", 1<<40)
		p.tick(t, w.ticks)
		if p.Now() != w.now {
			t.Errorf("Tick(%d) at %d: %d, not %d", w.ticks, w.at, p.Now(), w.now)
		}
		p.start(t, "c", 1<<40-6)
		p.tick(t, w.ticks)
		p.tick(t, w.ticks)
	}
}

// TestEnd: where time ends, what isn't due by then runs on, and what is, comes.
func TestEnd(t *testing.T) {
	s, _ := New[string](5)
	s.Start("whole", 1<<40)
	s.Tick(1<<40 - 3)
	s.Start("within", 3)
	s.Start("beyond", 4)
	s.Start("far", 1<<40)
	if keys := s.Tick(2); len(keys) != 0 {
		t.Errorf("ahead of the end: %v", keys)
	}
	if keys := s.Tick(math.MaxInt64); !slices.Equal(keys, []string{"whole", "within"}) {
		t.Errorf("at the end: %v", keys)
	}
	if keys := s.Tick(math.MaxInt64); len(keys) != 0 || s.Now() != 1<<40 {
		t.Errorf("behind the end: %v, at %d", keys, s.Now())
	}
	s.Start("last", 1)
	s.Start("farthest", 1<<40)
	want := []start{{Key: "beyond", Value: 1}, {Key: "last", Value: 1}, {Key: "far", Value: 1<<40 - 3}, {Key: "farthest", Value: 1 << 40}}
	if got := told.All(s.All()); !slices.Equal(got, want) {
		t.Errorf("%v, not %v", got, want)
	}
	if !s.Stop("beyond") || s.Clear() != 3 {
		t.Errorf("%d run", s.Len())
	}
}

// TestComes: P11.4: a key that isn't touched comes in the one Tick by which its time has come, whatever is done to others.
func TestComes(t *testing.T) {
	for ticks := int64(1); ticks <= 40; ticks++ {
		s, _ := New[int](6)
		s.Tick(3)
		s.Start(-1, ticks)
		came := int64(0)
		for i, b := range mixed.Bytes(int(ticks), 150) {
			key := int(b) % 9
			switch i % 3 {
			case 0:
				s.Start(key, int64(b%7))
			case 1:
				s.Stop(key)
			default:
				step := int64(b%6) - 1
				before := s.Now()
				if slices.Contains(s.Tick(step), -1) {
					came++
					if before >= 3+ticks || s.Now() < 3+ticks {
						t.Fatalf("due in %d, it comes from %d to %d", ticks, before-3, s.Now()-3)
					}
				}
			}
		}
		if came != 1 {
			t.Errorf("due in %d, it came %d times till %d", ticks, came, s.Now()-3)
		}
	}
}

// TestMany: long rows of calls, of all kinds, mixed.
func TestMany(t *testing.T) {
	for seed := range 60 {
		p := made(t, 1+seed%9)
		steps := mixed.Bytes(seed, 1200)
		for i := 0; i < len(steps); i += 3 {
			key, ticks := names[int(steps[i+1])%len(names)], int64(steps[i+2]%9)
			switch steps[i] % 16 {
			case 0, 1, 2:
				p.tick(t, ticks/2-1)
			case 3, 4:
				p.stop(t, key)
			case 5:
				if ticks == 0 {
					p.clear(t)
				}
			default:
				p.start(t, key, ticks)
			}
		}
	}
}

// TestGreatest: a set of the greatest room, all of it due at one time, and again as it was started anew.
func TestGreatest(t *testing.T) {
	s, _ := New[int](api.MaxTimers)
	var want []int
	for key := range 256 {
		s.Start(key*37%256, 5)
	}
	s.Tick(2)
	for key := range 256 {
		if key%3 == 0 {
			s.Start(key, 3)
		}
	}
	for key := range 256 {
		if one := key * 37 % 256; one%3 != 0 {
			want = append(want, one)
		}
	}
	for key := range 256 {
		if key%3 == 0 {
			want = append(want, key)
		}
	}
	if e := s.Start(256, 1); e != api.ErrLong || s.Len() != 256 {
		t.Errorf("Start: %d, %d run", e, s.Len())
	}
	if keys := s.Tick(2); len(keys) != 0 {
		t.Errorf("too early: %v", keys)
	}
	if keys := s.Tick(1); !slices.Equal(keys, want) {
		t.Errorf("%v, not %v", keys, want)
	}
}

// TestAllOver: All changes nothing, is what runs when it is called, and may be gone over again.
func TestAllOver(t *testing.T) {
	p := running(t, 4, 4, 2, 4)
	all, want := p.All(), p.plain.all()
	for _, act := range []func(){
		func() {},
		func() { p.start(t, "g", 1) },
		func() { p.tick(t, 2) },
		func() { p.start(t, "a", 9) },
		func() { p.stop(t, "c") },
		func() { p.clear(t) },
	} {
		act()
		if got := told.All(all); !slices.Equal(got, want) {
			t.Errorf("%v, not %v", got, want)
		}
	}
	if got := told.All(p.All()); len(got) != 0 {
		t.Errorf("of nothing: %v", got)
	}
}

// TestAllEnds: it ends where its user leaves it, and whatever is done meanwhile.
func TestAllEnds(t *testing.T) {
	p := running(t, 4, 4, 2, 4, 1)
	for count := 1; count <= 4; count++ {
		var left []int64
		for _, ticks := range p.All() {
			if left = append(left, ticks); len(left) == count {
				break
			}
		}
		if !slices.Equal(left, []int64{1, 2, 4, 4}[:count]) {
			t.Errorf("%v, of %d", left, count)
		}
		p.asked(t)
	}
	want := p.plain.all()
	for _, act := range []func(s *Set[string], key string){
		func(s *Set[string], key string) { s.Start(key, 9) },
		func(s *Set[string], key string) { s.Stop(key) },
		func(s *Set[string], key string) { s.Tick(1) },
		func(s *Set[string], key string) { s.Clear() },
		func(s *Set[string], key string) { s.Stop("a"); s.Start("g", 1) },
	} {
		p = running(t, 4, 4, 2, 4, 1)
		var got []start
		for key, left := range p.All() {
			got = append(got, start{Key: key, Value: left})
			act(p.Set, key)
		}
		if !slices.Equal(got, want) {
			t.Errorf("%v, not %v", got, want)
		}
	}
}

// TestOwn: what is answered is its user's own: neither what is put into it nor what it gets behind its end is seen elsewhere.
func TestOwn(t *testing.T) {
	p := running(t, 6, 1, 1, 2, 2, 3, 3)
	first := p.Tick(1)
	p.plain.tick(1)
	first[0] = "x"
	_ = append(first, "y", "z")
	p.asked(t)
	p.start(t, "g", 1)
	second := p.Tick(1)
	p.plain.tick(1)
	if !slices.Equal(first, []string{"x", "b"}) || !slices.Equal(second, []string{"c", "d", "g"}) {
		t.Errorf("%v, %v", first, second)
	}
	second[1] = "x"
	p.asked(t)
	p.tick(t, 1)
	if !slices.Equal(first, []string{"x", "b"}) || !slices.Equal(second, []string{"c", "x", "g"}) {
		t.Errorf("%v, %v", first, second)
	}
}

// TestApart: what is done to one set isn't seen at another one.
func TestApart(t *testing.T) {
	a, b := running(t, 3, 2, 1), running(t, 3, 2, 1)
	a.tick(t, 1)
	b.asked(t)
	b.start(t, "c", 4)
	a.asked(t)
	a.clear(t)
	b.tick(t, 2)
	a.asked(t)
}

// TestGone: what doesn't run any more isn't kept, by whatever call it went.
func TestGone(t *testing.T) {
	s, _ := New[string](6)
	for _, key := range names[1:7] {
		s.Start(key, int64(key[0]-'a')+1)
	}
	for _, act := range []func(){
		func() {},
		func() { s.Tick(2) },
		func() { s.Stop("d") },
		func() { s.Start("c", 9) },
		func() { s.Stop("c") },
		func() { s.Start("g", 9); s.Tick(3) },
		func() { s.Clear() },
	} {
		act()
		for i, r := range s.runs[:cap(s.runs)] {
			if (r != run[string]{}) != (i < s.Len()) {
				t.Errorf("%d run, and place %d has %v", s.Len(), i, r)
			}
		}
	}
}

// kind: keys of one type, each other than the others, run, are stopped, and come.
func kind[K cmp.Ordered](t *testing.T, same func(a, b K) bool, keys ...K) {
	t.Helper()
	s, e := New[K](len(keys))
	if e != api.OK {
		t.Fatal(e)
	}
	for i, key := range keys {
		if e := s.Start(key, int64(i)+1); e != api.OK || s.Len() != i+1 {
			t.Errorf("%v: %d, %d run", key, e, s.Len())
		}
	}
	for i, key := range keys {
		if e := s.Start(key, int64(len(keys)-i)); e != api.OK || s.Len() != len(keys) {
			t.Errorf("%v anew: %d, %d run", key, e, s.Len())
		}
		if left, runs := s.Left(key); left != int64(len(keys)-i) || !runs {
			t.Errorf("%v: %d, %t", key, left, runs)
		}
	}
	for _, key := range keys {
		if !s.Stop(key) || s.Stop(key) {
			t.Errorf("%v: it isn't stopped once", key)
		}
		if left, runs := s.Left(key); left != 0 || runs {
			t.Errorf("%v: %d, %t", key, left, runs)
		}
		s.Start(key, 1)
	}
	if got := s.Tick(1); !slices.EqualFunc(got, keys, same) {
		t.Errorf("%v, not %v", got, keys)
	}
}

// equal: do two keys have the same value?
func equal[K comparable](a, b K) bool { return a == b }

// named is a type of its own, of ordered values.
type named string

// TestKinds: keys may be of any type whose values are ordered: also of floats of which one isn't equal to itself.
func TestKinds(t *testing.T) {
	kind(t, equal, "", "a", "A", "a\x00", "aa", "\xff", "ä")
	kind(t, equal, named(""), named("x"), named("y"))
	kind(t, equal, math.MinInt, -1, 0, 1, math.MaxInt)
	kind(t, equal, uint8(0), uint8(1), uint8(255))
	kind(t, equal, uint64(0), uint64(math.MaxInt64), uint64(1<<63), uint64(math.MaxUint64))
	kind(t, equal, int64(math.MinInt64), int64(math.MaxInt64), int64(0))
	kind(t, equal, api.ErrRange, api.OK, api.Errno(-1))
	float := func(a, b float64) bool { return a == b || a != a && b != b }
	kind(t, float, math.NaN(), math.Inf(1), math.Inf(-1), 0, 1, math.SmallestNonzeroFloat64, math.MaxFloat64, -1)
	kind(t, equal, float32(0), float32(0.5), float32(math.Inf(1)))
}

// TestNoughts: 0 and -0 are one key, which comes as it was started last.
func TestNoughts(t *testing.T) {
	s, _ := New[float64](1)
	minus := math.Copysign(0, -1)
	if a, b := s.Start(0, 1), s.Start(minus, 2); a != api.OK || b != api.OK || s.Len() != 1 {
		t.Errorf("Start: %d, %d, %d run", a, b, s.Len())
	}
	if keys := s.Tick(2); len(keys) != 1 || !math.Signbit(keys[0]) {
		t.Errorf("Tick: %v", keys)
	}
}
