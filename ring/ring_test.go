package ring

import (
	"math"
	"slices"
	"testing"

	"backstay/api"
	"backstay/mixed"
	"backstay/told"
)

// plain keeps entries in a map, and goes through all numbers that there might be.
type plain struct {
	room, first, next int
	entries           map[int]string
}

// settle: the first number is the least one that has an entry.
func (p *plain) settle() {
	p.first = p.next
	for n := range p.entries {
		p.first = min(p.first, n)
	}
}

// put: what Put should tell.
func (p *plain) put(v string) int {
	if len(p.entries) == p.room {
		delete(p.entries, p.first)
	}
	p.entries[p.next] = v
	p.next++
	p.settle()
	return p.next - 1
}

// at: what At should tell.
func (p *plain) at(n int) (string, api.Errno) {
	v, ok := p.entries[n]
	switch {
	case ok:
		return v, api.OK
	case n < p.first:
		return "", api.ErrOld
	}
	return "", api.ErrNone
}

// set: what Set should tell.
func (p *plain) set(n int, v string) api.Errno {
	_, e := p.at(n)
	if e == api.OK {
		p.entries[n] = v
	}
	return e
}

// drop: what is left.
func (p *plain) drop(below int) {
	for n := range p.entries {
		if n < below {
			delete(p.entries, n)
		}
	}
	p.settle()
}

// cut: what is left.
func (p *plain) cut(from int) {
	gone := 0
	for n := range p.entries {
		if n >= from {
			delete(p.entries, n)
			gone++
		}
	}
	p.next -= gone
	p.settle()
}

// reset: nothing is left, if the number may be.
func (p *plain) reset(next int) {
	if next >= 0 && next <= 1<<40 {
		clear(p.entries)
		p.first, p.next = next, next
	}
}

// clone: one that is alike.
func (p *plain) clone() *plain {
	c := plain{p.room, p.first, p.next, map[int]string{}}
	for n, v := range p.entries {
		c.entries[n] = v
	}
	return &c
}

// numbered is a number and its entry.
type numbered = told.Pair[int, string]

// all: what All should go over.
func (p *plain) all() []numbered {
	var list []numbered
	for n := p.first; n < p.next; n++ {
		list = append(list, numbered{Key: n, Value: p.entries[n]})
	}
	return list
}

// taken: how many slots aren't zero.
func taken[T comparable](slots []T) int {
	var none T
	count := 0
	for _, v := range slots {
		if v != none {
			count++
		}
	}
	return count
}

// pair is a ring, and what it should be.
type pair struct {
	*Ring[string]
	plain *plain
}

// made: both without entries.
func made(t *testing.T, room int) pair {
	t.Helper()
	r, e := New[string](room)
	if e != api.OK || r == nil {
		t.Fatalf("New(%d): %d", room, e)
	}
	return pair{r, &plain{room: room, entries: map[int]string{}}}
}

// asked: do the calls that change nothing tell what they should?
func (p pair) asked(t *testing.T) {
	t.Helper()
	if p.Room() != p.plain.room || p.Len() != len(p.plain.entries) || p.First() != p.plain.first || p.Next() != p.plain.next {
		t.Fatalf("room %d, %d entries, from %d to %d, not %+v", p.Room(), p.Len(), p.First(), p.Next(), *p.plain)
	}
	for n := p.plain.first - 2*p.plain.room - 2; n <= p.plain.next+2*p.plain.room+2; n++ {
		p.at(t, n)
	}
	for _, n := range []int{math.MinInt, math.MinInt + 1, math.MinInt32, -1, 0, 1 << 32, 1 << 40, 1<<40 + 1, math.MaxInt - 1, math.MaxInt} {
		p.at(t, n)
	}
	want := p.plain.all()
	if got := told.All(p.All()); !slices.Equal(got, want) {
		t.Fatalf("All: %v, not %v", got, want)
	}
	slices.Reverse(want)
	if got := told.All(p.Back()); !slices.Equal(got, want) {
		t.Fatalf("Back: %v, not %v", got, want)
	}
	if n := taken(p.slots); n != p.Len() || len(p.slots) > p.Room() {
		t.Fatalf("%d of %d slots are taken by %d entries", n, len(p.slots), p.Len())
	}
}

// at: does At tell what it should?
func (p pair) at(t *testing.T, n int) {
	t.Helper()
	got, e := p.At(n)
	if want, we := p.plain.at(n); got != want || e != we {
		t.Fatalf("At(%d): %q, %d, not %q, %d", n, got, e, want, we)
	}
}

// Each of these does the same to both, and asks what came of it.

func (p pair) put(t *testing.T, v string) {
	t.Helper()
	if got, want := p.Put(v), p.plain.put(v); got != want {
		t.Fatalf("Put(%q): %d, not %d", v, got, want)
	}
	p.asked(t)
}

func (p pair) set(t *testing.T, n int, v string) {
	t.Helper()
	if got, want := p.Set(n, v), p.plain.set(n, v); got != want {
		t.Fatalf("Set(%d, %q): %d, not %d", n, v, got, want)
	}
	p.asked(t)
}

func (p pair) drop(t *testing.T, below int) {
	t.Helper()
	p.Drop(below)
	p.plain.drop(below)
	p.asked(t)
}

func (p pair) cut(t *testing.T, from int) {
	t.Helper()
	p.Cut(from)
	p.plain.cut(from)
	p.asked(t)
}

func (p pair) reset(t *testing.T, next int) {
	t.Helper()
	p.Reset(next)
	p.plain.reset(next)
	p.asked(t)
}

// word: an entry that no other number has, in the tests that put these.
func word(i int) string { return "v" + string(rune('a'+i%26)) + string(rune('0'+i/26%10)) }

// filled: a ring of that room, whose numbers begin at from, with so many entries put.
func filled(t *testing.T, room, from, count int) pair {
	t.Helper()
	p := made(t, room)
	p.reset(t, from)
	for i := range count {
		p.put(t, word(i))
	}
	return p
}

// TestExamples: the chapter's own.
func TestExamples(t *testing.T) {
	r, e := New[int](2)
	if e != api.OK {
		t.Fatal(e)
	}
	for _, v := range []int{7, 8, 9} {
		r.Put(v)
	}
	if r.First() != 1 {
		t.Errorf("First: %d", r.First())
	}
	if v, e := r.At(1); v != 8 || e != api.OK {
		t.Errorf("At(1): %d, %d", v, e)
	}
}

// TestNew: P9.1: of the rooms that may be, and of others.
func TestNew(t *testing.T) {
	for _, room := range []int{1, 2, 3, 4095, 4096} {
		p := made(t, room)
		if p.Room() != room || p.Len() != 0 || p.First() != 0 || p.Next() != 0 {
			t.Errorf("New(%d): room %d, %d entries, from %d to %d", room, p.Room(), p.Len(), p.First(), p.Next())
		}
		p.asked(t)
	}
	for _, room := range []int{math.MinInt, -4096, -1, 0, 4097, 4098, 1 << 32, 1<<32 + 1, math.MaxInt} {
		if r, e := New[string](room); r != nil || e != api.ErrRange {
			t.Errorf("New(%d): %v, %d", room, r, e)
		}
	}
}

// TestPut: P9.2, P9.4: numbers go on, the first one goes where there is no room, and never are there more than Room.
func TestPut(t *testing.T) {
	for _, room := range []int{1, 2, 3, 7} {
		for _, from := range []int{0, 1, 6, 100, 1 << 40} {
			p := made(t, room)
			p.reset(t, from)
			for i := range 4*room + 3 {
				if p.Next() != from+i || p.Len() != min(i, room) || p.First() != from+max(0, i-room) {
					t.Fatalf("behind %d of room %d: %d entries, from %d to %d", i, room, p.Len(), p.First(), p.Next())
				}
				p.put(t, word(i))
				if v, e := p.At(from + i); v != word(i) || e != api.OK {
					t.Fatalf("At(%d): %q, %d", from+i, v, e)
				}
			}
		}
	}
}

// TestGreatest: a ring of the greatest room, filled twice.
func TestGreatest(t *testing.T) {
	r, _ := New[int](api.MaxRing)
	for i := range 2*api.MaxRing + 5 {
		if n := r.Put(i * 3); n != i {
			t.Fatalf("Put: %d, not %d", n, i)
		}
	}
	if r.Len() != 4096 || r.First() != 4101 || r.Next() != 8197 {
		t.Errorf("%d entries, from %d to %d", r.Len(), r.First(), r.Next())
	}
	count := 4101
	for n, v := range r.All() {
		if n != count || v != n*3 {
			t.Fatalf("%d is told as %d, not %d", n, v, count)
		}
		count++
	}
	if count != 8197 {
		t.Errorf("All ends at %d", count)
	}
}

// edges: numbers at and around those of a ring.
func edges(p pair) []int {
	list := []int{math.MinInt, math.MinInt32, -1, 0, 1 << 32, math.MaxInt}
	for n := p.First() - 3; n <= p.Next()+3; n++ {
		list = append(list, n)
	}
	return list
}

// TestSetDropCut: P9.2: at each number of and around a ring, in each state of filling; then it is filled anew.
func TestSetDropCut(t *testing.T) {
	acts := []func(pair, int){
		func(p pair, n int) { p.set(t, n, "other") },
		func(p pair, n int) { p.drop(t, n) },
		func(p pair, n int) { p.cut(t, n) },
		func(p pair, n int) { p.drop(t, n); p.cut(t, n+1) },
		func(p pair, n int) { p.cut(t, n); p.drop(t, n-1) },
		func(p pair, n int) { p.reset(t, n) },
	}
	for _, room := range []int{1, 2, 5} {
		for _, from := range []int{0, 4, 1<<40 - 2} {
			for count := range 2*room + 2 {
				for _, act := range acts {
					for _, n := range edges(filled(t, room, from, count)) {
						p := filled(t, room, from, count)
						act(p, n)
						for i := range room + 1 {
							p.put(t, word(30+i))
						}
					}
				}
			}
		}
	}
}

// TestDropCutPlain: P9.2: what is told of the two in so many words.
func TestDropCutPlain(t *testing.T) {
	p := filled(t, 4, 0, 6) // 2, 3, 4, 5
	p.Drop(3)
	if p.First() != 3 || p.Next() != 6 || p.Len() != 3 {
		t.Errorf("Drop(3): from %d to %d", p.First(), p.Next())
	}
	p.Cut(5)
	if p.First() != 3 || p.Next() != 5 || p.Len() != 2 {
		t.Errorf("Cut(5): from %d to %d", p.First(), p.Next())
	}
	if n := p.Put("x"); n != 5 {
		t.Errorf("Put: %d", n)
	}
	p.Drop(100)
	if p.First() != 6 || p.Next() != 6 || p.Len() != 0 {
		t.Errorf("Drop(100): from %d to %d", p.First(), p.Next())
	}
	p.Put("y")
	p.Cut(-5)
	if p.First() != 6 || p.Next() != 6 || p.Len() != 0 {
		t.Errorf("Cut(-5): from %d to %d", p.First(), p.Next())
	}
}

// TestSetRefused: P2: what is refused changes nothing.
func TestSetRefused(t *testing.T) {
	p := filled(t, 3, 0, 5) // 2, 3, 4
	for _, w := range []struct {
		n int
		e api.Errno
	}{{1, api.ErrOld}, {-1, api.ErrOld}, {math.MinInt, api.ErrOld}, {5, api.ErrNone}, {math.MaxInt, api.ErrNone}} {
		if e := p.Set(w.n, "other"); e != w.e {
			t.Errorf("Set(%d): %d, not %d", w.n, e, w.e)
		}
		p.asked(t)
	}
	// A zero entry is one, too.
	if e := p.Set(3, ""); e != api.OK {
		t.Errorf("Set(3): %d", e)
	}
	if v, e := p.At(3); v != "" || e != api.OK || p.Len() != 3 {
		t.Errorf("At(3): %q, %d", v, e)
	}
}

// TestReset: P9.2: to the edges, and beyond them, where nothing happens.
func TestReset(t *testing.T) {
	for _, next := range []int{0, 1, 2, 5, 4096, 1 << 32, 1<<40 - 1, 1 << 40} {
		p := filled(t, 3, 0, 5)
		p.Reset(next)
		if p.Len() != 0 || p.First() != next || p.Next() != next {
			t.Errorf("Reset(%d): from %d to %d", next, p.First(), p.Next())
		}
		if _, e := p.At(next - 1); e != api.ErrOld {
			t.Errorf("At(%d): %d", next-1, e)
		}
		if _, e := p.At(next); e != api.ErrNone {
			t.Errorf("At(%d): %d", next, e)
		}
		if n := p.Put("x"); n != next {
			t.Errorf("Put behind Reset(%d): %d", next, n)
		}
	}
	for _, next := range []int{math.MinInt, -1 << 40, -1, 1<<40 + 1, 1 << 62, math.MaxInt} {
		p := filled(t, 3, 0, 5)
		p.Reset(next)
		p.asked(t)
	}
}

// TestMany: long rows of calls, of all kinds, mixed.
func TestMany(t *testing.T) {
	for seed := range 40 {
		p := made(t, 1+seed%9)
		steps := mixed.Bytes(seed, 900)
		for i := 0; i < len(steps); i += 3 {
			near := p.First() - 2 + int(steps[i+1])%(p.Len()+5)
			v := word(int(steps[i+2]))
			switch steps[i] % 16 {
			case 0:
				p.drop(t, near)
			case 1:
				p.cut(t, near)
			case 2:
				p.reset(t, int(steps[i+1])-3)
			case 3, 4, 5:
				p.set(t, near, v)
			case 6:
				p = pair{p.Ring.Clone(), p.plain.clone()}
				p.asked(t)
			default:
				p.put(t, v)
			}
		}
	}
}

// TestOverLater: P9.3: what is gone over is the ring as it is then, not as it was when All or Back was called; and each time anew.
func TestOverLater(t *testing.T) {
	p := made(t, 2)
	all, back := p.All(), p.Back()
	for i := range 5 {
		want := p.plain.all()
		for range 2 {
			if got := told.All(all); !slices.Equal(got, want) {
				t.Errorf("All: %v, not %v", got, want)
			}
		}
		slices.Reverse(want)
		for range 2 {
			if got := told.All(back); !slices.Equal(got, want) {
				t.Errorf("Back: %v, not %v", got, want)
			}
		}
		p.put(t, word(i))
	}
}

// TestOverEndsEarly: it ends where its user leaves it.
func TestOverEndsEarly(t *testing.T) {
	p := filled(t, 4, 0, 6) // 2, 3, 4, 5
	for count := 1; count <= 4; count++ {
		var up, down []int
		for n := range p.All() {
			if up = append(up, n); len(up) == count {
				break
			}
		}
		for n := range p.Back() {
			if down = append(down, n); len(down) == count {
				break
			}
		}
		if !slices.Equal(up, []int{2, 3, 4, 5}[:count]) || !slices.Equal(down, []int{5, 4, 3, 2}[:count]) {
			t.Errorf("%v and %v, of %d", up, down, count)
		}
	}
	p.asked(t)
}

// TestOverChanged: while it is gone over, what went isn't told, what was set is told as it is now, and it ends whatever is put.
func TestOverChanged(t *testing.T) {
	for _, w := range []struct {
		name     string
		act      func(p pair, n int)
		up, down []int
	}{
		{"Put", func(p pair, n int) { p.Put("x") }, []int{2, 3, 4, 5}, []int{5, 4}},
		{"Put twice", func(p pair, n int) { p.Put("x"); p.Put("x") }, []int{2, 4}, []int{5, 4}},
		{"Drop", func(p pair, n int) { p.Drop(n + 1) }, []int{2, 3, 4, 5}, []int{5}},
		{"Drop more", func(p pair, n int) { p.Drop(n + 2) }, []int{2, 4}, []int{5}},
		{"Cut", func(p pair, n int) { p.Cut(n) }, []int{2}, []int{5, 4, 3, 2}},
		{"Cut more", func(p pair, n int) { p.Cut(n - 1) }, []int{2}, []int{5, 3}},
		{"Reset to 0", func(p pair, n int) { p.Reset(0) }, []int{2}, []int{5}},
		{"Reset to 2^40", func(p pair, n int) { p.Reset(1 << 40) }, []int{2}, []int{5}},
	} {
		up, down := filled(t, 4, 0, 6), filled(t, 4, 0, 6)
		var got []int
		for n := range up.All() {
			got = append(got, n)
			w.act(up, n)
		}
		if !slices.Equal(got, w.up) {
			t.Errorf("All, %s: %v, not %v", w.name, got, w.up)
		}
		got = nil
		for n := range down.Back() {
			got = append(got, n)
			w.act(down, n)
		}
		if !slices.Equal(got, w.down) {
			t.Errorf("Back, %s: %v, not %v", w.name, got, w.down)
		}
	}
	p := filled(t, 4, 0, 6)
	var got []string
	for n, v := range p.All() {
		got = append(got, v)
		p.Set(n+1, "new")
	}
	if !slices.Equal(got, []string{word(2), "new", "new", "new"}) {
		t.Errorf("All, Set: %v", got)
	}
	// Down from 2^40 to 0 it would not end within days.
	p = filled(t, 4, 1<<40, 6)
	count := 0
	for range p.Back() {
		p.Reset(0)
		count++
	}
	if count != 1 {
		t.Errorf("Back, Reset from 2^40: %d entries", count)
	}
}

// TestClone: P9.3: it is alike, and what is done to the one isn't seen at the other.
func TestClone(t *testing.T) {
	acts := []func(p pair){
		func(p pair) { p.put(t, "x") },
		func(p pair) { p.set(t, 3, "x") },
		func(p pair) { p.drop(t, 4) },
		func(p pair) { p.cut(t, 4) },
		func(p pair) { p.reset(t, 9) },
		func(p pair) { p.cut(t, 5); p.put(t, "y") },
	}
	for count := range 8 {
		for _, one := range acts {
			for _, other := range acts {
				a := filled(t, 4, 0, count)
				b := pair{a.Ring.Clone(), a.plain.clone()}
				b.asked(t)
				over := a.All()
				one(b)
				a.asked(t)
				other(a)
				b.asked(t)
				if got, want := told.All(over), a.plain.all(); !slices.Equal(got, want) {
					t.Errorf("All of the first one: %v, not %v", got, want)
				}
			}
		}
	}
}

// TestGone: what went isn't kept, by whatever call it went, nor is it told again under a number that is put anew.
func TestGone(t *testing.T) {
	r, _ := New[*int](3)
	for i := range 5 {
		r.Put(&i)
	}
	for _, w := range []struct {
		act  func()
		left int
	}{
		{func() { r.Drop(3) }, 2},
		{func() { r.Cut(4) }, 1},
		{func() { r.Put(new(int)) }, 2},
		{func() { r.Reset(7) }, 0},
	} {
		w.act()
		if n := taken(r.slots); r.Len() != w.left || n != w.left {
			t.Errorf("%d entries are kept, %d are told, not %d", n, r.Len(), w.left)
		}
	}
	if p, e := r.At(4); p != nil || e != api.ErrOld {
		t.Errorf("At(4): %v, %d", p, e)
	}
}

// TestKinds: entries may be of any type: also of one without bytes, and of one that can't be held against another.
func TestKinds(t *testing.T) {
	none, _ := New[struct{}](2)
	funcs, _ := New[func() int](2)
	for i := range 3 {
		none.Put(struct{}{})
		funcs.Put(func() int { return i })
	}
	if none.Len() != 2 || none.First() != 1 {
		t.Errorf("%d entries from %d", none.Len(), none.First())
	}
	for n, f := range funcs.Back() {
		if f() != n {
			t.Errorf("entry %d is %d", n, f())
		}
	}
	if f, e := funcs.At(3); f != nil || e != api.ErrNone {
		t.Errorf("At(3): %d", e)
	}
}
