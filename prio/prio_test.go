package prio

import (
	"math"
	"slices"
	"testing"

	"backstay/api"
	"backstay/mixed"
	"backstay/told"
)

// ranked is a rank and its item.
type ranked = told.Pair[int, string]

// plain keeps items as they were pushed, and looks through all of them for each answer.
type plain struct {
	room  int
	items []ranked
}

// first: the place of the item that comes ahead of all others; -1, if there is none.
func (p *plain) first() int {
	at := -1
	for i, one := range p.items {
		if at < 0 || one.Key < p.items[at].Key {
			at = i
		}
	}
	return at
}

// last: the place of the item that all others come ahead of.
func (p *plain) last() int {
	at := 0
	for i, one := range p.items {
		if one.Key >= p.items[at].Key {
			at = i
		}
	}
	return at
}

// out: the item at a place goes.
func (p *plain) out(at int) ranked {
	one := p.items[at]
	p.items = append(slices.Clone(p.items[:at]), p.items[at+1:]...)
	return one
}

// push: what Push should tell.
func (p *plain) push(rank int, v string) (string, bool) {
	p.items = append(p.items, ranked{Key: rank, Value: v})
	if len(p.items) <= p.room {
		return "", false
	}
	return p.out(p.last()).Value, true
}

// peek: what Peek should tell.
func (p *plain) peek() (string, int, bool) {
	at := p.first()
	if at < 0 {
		return "", 0, false
	}
	return p.items[at].Value, p.items[at].Key, true
}

// pop: what Pop should tell.
func (p *plain) pop() (string, int, bool) {
	v, rank, ok := p.peek()
	if ok {
		p.out(p.first())
	}
	return v, rank, ok
}

// filter: what Filter should tell.
func (p *plain) filter(keep func(string) bool) int {
	var stay []ranked
	for _, one := range p.items {
		if keep(one.Value) {
			stay = append(stay, one)
		}
	}
	gone := len(p.items) - len(stay)
	p.items = stay
	return gone
}

// clone: one that is alike.
func (p *plain) clone() *plain { return &plain{p.room, slices.Clone(p.items)} }

// all: what All should go over.
func (p *plain) all() []ranked {
	var list []ranked
	for c := p.clone(); ; {
		v, rank, ok := c.pop()
		if !ok {
			return list
		}
		list = append(list, ranked{Key: rank, Value: v})
	}
}

// pair is a queue, and what it should be.
type pair struct {
	*Queue[string]
	plain *plain
}

// made: both without items.
func made(t *testing.T, room int) pair {
	t.Helper()
	q, e := New[string](room)
	if e != api.OK || q == nil {
		t.Fatalf("New(%d): %d", room, e)
	}
	return pair{q, &plain{room: room}}
}

// asked: do the calls that change nothing tell what they should?
func (p pair) asked(t *testing.T) {
	t.Helper()
	if p.Room() != p.plain.room || p.Len() != len(p.plain.items) {
		t.Fatalf("room %d, %d items, not %+v", p.Room(), p.Len(), *p.plain)
	}
	v, rank, ok := p.Peek()
	if wv, wr, wok := p.plain.peek(); v != wv || rank != wr || ok != wok {
		t.Fatalf("Peek: %q, %d, %t, not %q, %d, %t", v, rank, ok, wv, wr, wok)
	}
	if got, want := told.All(p.All()), p.plain.all(); !slices.Equal(got, want) {
		t.Fatalf("All: %v, not %v", got, want)
	}
	if p.Len() != len(p.plain.items) {
		t.Fatalf("All leaves %d items", p.Len())
	}
}

// Each of these does the same to both, and asks what came of it.

func (p pair) push(t *testing.T, rank int, v string) {
	t.Helper()
	got, gone := p.Push(rank, v)
	if want, w := p.plain.push(rank, v); got != want || gone != w {
		t.Fatalf("Push(%d, %q): %q, %t, not %q, %t", rank, v, got, gone, want, w)
	}
	p.asked(t)
}

func (p pair) pop(t *testing.T) {
	t.Helper()
	v, rank, ok := p.Pop()
	if wv, wr, wok := p.plain.pop(); v != wv || rank != wr || ok != wok {
		t.Fatalf("Pop: %q, %d, %t, not %q, %d, %t", v, rank, ok, wv, wr, wok)
	}
	p.asked(t)
}

func (p pair) filter(t *testing.T, keep func(string) bool) {
	t.Helper()
	want := p.plain.clone().all()
	var times []string
	got := p.Filter(func(v string) bool {
		times = append(times, v)
		return keep(v)
	})
	if w := p.plain.filter(keep); got != w {
		t.Fatalf("Filter: %d, not %d", got, w)
	}
	var items []string
	for _, one := range want {
		items = append(items, one.Value)
	}
	slices.Sort(items)
	slices.Sort(times)
	if !slices.Equal(times, items) {
		t.Fatalf("Filter asks of %v, not of %v", times, items)
	}
	p.asked(t)
}

// word: an item that no other one near it is.
func word(i int) string { return string(rune('a'+i%26)) + string(rune('0'+i/26%10)) }

// filled: a queue of that room, with items of these ranks pushed.
func filled(t *testing.T, room int, ranks ...int) pair {
	t.Helper()
	p := made(t, room)
	for i, rank := range ranks {
		p.push(t, rank, word(i))
	}
	return p
}

// TestExamples: the chapter's own.
func TestExamples(t *testing.T) {
	q, e := New[string](2)
	if e != api.OK {
		t.Fatal(e)
	}
	for i, w := range []struct {
		rank    int
		v, gone string
		full    bool
	}{{5, "a", "", false}, {1, "b", "", false}, {3, "c", "a", true}} {
		if gone, full := q.Push(w.rank, w.v); gone != w.gone || full != w.full {
			t.Errorf("Push %d: %q, %t", i, gone, full)
		}
	}
	for _, w := range []struct {
		v    string
		rank int
		ok   bool
	}{{"b", 1, true}, {"c", 3, true}, {"", 0, false}} {
		if v, rank, ok := q.Pop(); v != w.v || rank != w.rank || ok != w.ok {
			t.Errorf("Pop: %q, %d, %t, not %v", v, rank, ok, w)
		}
	}
}

// TestNew: P10.1: of the rooms that may be, and of others.
func TestNew(t *testing.T) {
	for _, room := range []int{1, 2, 3, 255, 256} {
		p := made(t, room)
		if p.Room() != room || p.Len() != 0 {
			t.Errorf("New(%d): room %d, %d items", room, p.Room(), p.Len())
		}
		p.asked(t)
		p.pop(t)
		p.filter(t, func(string) bool { return false })
	}
	for _, room := range []int{math.MinInt, -256, -1, 0, 257, 258, 1 << 32, 1<<32 + 1, math.MaxInt} {
		if q, e := New[string](room); q != nil || e != api.ErrRange {
			t.Errorf("New(%d): %v, %d", room, q, e)
		}
	}
}

// rows: each row of so many ranks from 0 to below kinds.
func rows(count, kinds int) [][]int {
	if count == 0 {
		return [][]int{nil}
	}
	var list [][]int
	for _, row := range rows(count-1, kinds) {
		for rank := range kinds {
			list = append(list, append(slices.Clone(row), rank))
		}
	}
	return list
}

// TestAllRows: P10.2, P10.4: each row of few ranks is pushed at each small room, and all comes.
func TestAllRows(t *testing.T) {
	for room := 1; room <= 5; room++ {
		for _, row := range rows(5, 3) {
			p := filled(t, room, row...)
			for range room + 1 {
				p.pop(t)
			}
			p.push(t, 1, "x")
			p.push(t, 1, "y")
		}
	}
}

// TestLastGoes: P10.2: who goes where there is no room, in so many words.
func TestLastGoes(t *testing.T) {
	for _, w := range []struct {
		name string
		rank int
		gone string
	}{
		{"more urgent than all", 0, word(2)},
		{"as the most urgent one", 1, word(2)},
		{"between", 3, word(2)},
		{"as the least urgent ones: the one that came last, itself", 4, "x"},
		{"less urgent than all", 5, "x"},
		{"the least rank", math.MinInt, word(2)},
		{"the greatest rank", math.MaxInt, "x"},
	} {
		p := filled(t, 3, 4, 1, 4)
		if got, full := p.Clone().Push(w.rank, "x"); got != w.gone || !full {
			t.Errorf("%s: %q, %t, not %q", w.name, got, full, w.gone)
		}
		p.push(t, w.rank, "x")
	}
}

// TestRanks: ranks are any numbers, as far apart as numbers can be.
func TestRanks(t *testing.T) {
	ranks := []int{math.MaxInt, 0, math.MinInt, -1, 1, math.MaxInt - 1, math.MinInt + 1, 1 << 32, -1 << 32, math.MinInt, math.MaxInt, 1 << 62, -1 << 62}
	for room := 1; room <= len(ranks); room++ {
		p := filled(t, room, ranks...)
		sorted := slices.Sorted(slices.Values(ranks))
		for i := range room {
			if _, rank, ok := p.Peek(); rank != sorted[i] || !ok {
				t.Errorf("room %d: item %d has rank %d, not %d", room, i, rank, sorted[i])
			}
			p.pop(t)
		}
		p.pop(t)
	}
}

// TestGreatest: P10.4: a queue of the greatest room, pushed beyond it: all comes by rank, and in each rank as it was pushed.
func TestGreatest(t *testing.T) {
	q, _ := New[int](api.MaxQueue)
	ranks := mixed.Bytes(3, 1000)
	lost := 0
	for i, b := range ranks {
		_, full := q.Push(int(b)%7, i)
		if full {
			lost++
		}
		if full != (i >= 256) {
			t.Fatalf("Push %d: %t", i, full)
		}
	}
	if q.Len() != 256 || lost != 1000-256 {
		t.Errorf("%d items, %d lost", q.Len(), lost)
	}
	var want []int
	for rank := range 7 {
		for i, b := range ranks {
			if int(b)%7 == rank && len(want) < 256 {
				want = append(want, i)
			}
		}
	}
	for i, w := range want {
		if v, rank, ok := q.Pop(); v != w || rank != int(ranks[w])%7 || !ok {
			t.Fatalf("Pop %d: %d, %d, %t, not %d", i, v, rank, ok, w)
		}
	}
	if _, _, ok := q.Pop(); ok {
		t.Error("more comes than was pushed")
	}
}

// TestFilter: P10.3: each choice of items that stay goes, at ranks of all kinds; what comes then comes behind its equals.
func TestFilter(t *testing.T) {
	for _, ranks := range [][]int{{}, {1}, {2, 2, 2, 2}, {3, 1, 2, 1}, {1, 2, 3, 4}, {0, -5, 0, -5}} {
		for _, room := range []int{4, 5} {
			for stay := range 1 << len(ranks) {
				p := filled(t, room, ranks...)
				p.filter(t, func(v string) bool { return stay>>(v[0]-'a')&1 == 1 })
				for range 3 {
					p.push(t, 1, word(30))
				}
			}
		}
	}
}

// TestFilterAlike: items that are the same are asked of one by one, each as often as it is there.
func TestFilterAlike(t *testing.T) {
	q, _ := New[string](5)
	for range 5 {
		q.Push(1, "x")
	}
	times := 0
	if gone := q.Filter(func(string) bool { times++; return times%2 == 0 }); gone != 3 || times != 5 || q.Len() != 2 {
		t.Errorf("%d went of %d, %d are left", gone, times, q.Len())
	}
}

// TestFilterNoAnswer: P1: a question that panics, or none at all, isn't answered with no: those stay, the others are asked of all the same.
func TestFilterNoAnswer(t *testing.T) {
	p := filled(t, 4, 2, 1, 2, 1)
	if gone := p.Filter(nil); gone != 0 {
		t.Errorf("of nil: %d", gone)
	}
	p.asked(t)
	if gone := p.Filter(func(string) bool { panic("no answer") }); gone != 0 {
		t.Errorf("of a panic: %d", gone)
	}
	p.asked(t)
	var none []bool
	if gone := p.Filter(func(v string) bool { return v != word(1) && none[0] }); gone != 1 {
		t.Errorf("of one answer: %d", gone)
	}
	p.plain.filter(func(v string) bool { return v != word(1) })
	p.asked(t)
	empty := made(t, 1)
	if gone := empty.Filter(nil); gone != 0 {
		t.Errorf("of nothing: %d", gone)
	}
	empty.asked(t)
}

// TestFilterPushes: what the question itself pushes and pops isn't undone, and isn't asked of.
func TestFilterPushes(t *testing.T) {
	for _, w := range []struct {
		name  string
		act   func(p pair)
		gone  int
		items []string
	}{
		{"Push without room", func(p pair) { p.Push(0, "x") }, 2, []string{"x", "x", "x", "x"}},
		{"Push that goes at once", func(p pair) { p.Push(9, "x") }, 4, []string{"x", "x"}},
		{"Pop", func(p pair) { p.Pop() }, 0, nil},
		{"Filter", func(p pair) { p.Filter(func(v string) bool { return v != word(2) }) }, 3, nil},
		{"Pop and Push", func(p pair) { p.Pop(); p.Push(0, "x") }, 3, []string{"x"}},
		{"All", func(p pair) { told.All(p.All()) }, 4, nil},
		{"Clone", func(p pair) { p.Clone().Pop() }, 4, nil},
	} {
		p := filled(t, 6, 2, 1, 2, 1)
		var times []string
		gone := p.Filter(func(v string) bool {
			times = append(times, v)
			w.act(p)
			return false
		})
		slices.Sort(times)
		var items []string
		for _, v := range p.All() {
			items = append(items, v)
		}
		if asked := []string{word(0), word(1), word(2), word(3)}; !slices.Equal(times, asked) {
			t.Errorf("%s: it is asked of %v, not of %v", w.name, times, asked)
		}
		if gone != w.gone || !slices.Equal(items, w.items) {
			t.Errorf("%s: %d went, %v are left", w.name, gone, items)
		}
	}
}

// TestAllOver: P10.3: All changes nothing, is what is there when it is called, and may be gone over again.
func TestAllOver(t *testing.T) {
	p := filled(t, 3, 2, 1, 2, 0)
	all, want := p.All(), p.plain.all()
	for _, act := range []func(){
		func() {},
		func() { p.push(t, -1, "x") },
		func() { p.pop(t) },
		func() { p.filter(t, func(string) bool { return false }) },
	} {
		act()
		if got := told.All(all); !slices.Equal(got, want) {
			t.Errorf("%v, not %v", got, want)
		}
	}
	if got := told.All(p.All()); len(got) != 0 {
		t.Errorf("of nothing: %v", got)
	}
}

// TestAllEnds: it ends where its user leaves it, and whatever is done meanwhile.
func TestAllEnds(t *testing.T) {
	p := filled(t, 4, 3, 1, 2, 1)
	for count := 1; count <= 4; count++ {
		var ranks []int
		for rank := range p.All() {
			if ranks = append(ranks, rank); len(ranks) == count {
				break
			}
		}
		if !slices.Equal(ranks, []int{1, 1, 2, 3}[:count]) {
			t.Errorf("%v, of %d", ranks, count)
		}
		p.asked(t)
	}
	want := p.plain.all()
	for _, act := range []func(){
		func() { p.Push(9, "x") },
		func() { p.Push(0, "x") },
		func() { p.Pop() },
		func() { p.Filter(func(string) bool { return false }) },
	} {
		p = filled(t, 4, 3, 1, 2, 1)
		var got []ranked
		for rank, v := range p.All() {
			got = append(got, ranked{Key: rank, Value: v})
			act()
		}
		if !slices.Equal(got, want) {
			t.Errorf("%v, not %v", got, want)
		}
	}
}

// TestClone: P10.3: it is alike, and what is done to the one isn't seen at the other.
func TestClone(t *testing.T) {
	acts := []func(p pair){
		func(p pair) { p.push(t, 0, "x") },
		func(p pair) { p.push(t, 2, "y") },
		func(p pair) { p.push(t, 9, "z") },
		func(p pair) { p.pop(t) },
		func(p pair) { p.filter(t, func(v string) bool { return v != word(1) }) },
		func(p pair) { p.filter(t, func(v string) bool { return false }) },
		func(p pair) { p.pop(t); p.push(t, 1, "x"); p.push(t, 1, "y") },
	}
	ranks := []int{2, 1, 3, 1, 2, 0}
	for count := range len(ranks) + 1 {
		for _, one := range acts {
			for _, other := range acts {
				a := filled(t, 4, ranks[:count]...)
				b := pair{a.Queue.Clone(), a.plain.clone()}
				b.asked(t)
				one(b)
				a.asked(t)
				other(a)
				b.asked(t)
				one(a)
				b.asked(t)
			}
		}
	}
}

// TestMany: long rows of calls, of all kinds, mixed.
func TestMany(t *testing.T) {
	for seed := range 40 {
		p := made(t, 1+seed%11)
		steps := mixed.Bytes(seed, 1200)
		for i := 0; i < len(steps); i += 3 {
			switch steps[i] % 12 {
			case 0, 1, 2:
				p.pop(t)
			case 3:
				p.filter(t, func(v string) bool { return v[0]%4 != steps[i+1]%4 })
			case 4:
				p = pair{p.Queue.Clone(), p.plain.clone()}
				p.asked(t)
			default:
				p.push(t, int(steps[i+1]%5)-2, word(int(steps[i+2])))
			}
		}
	}
}

// TestGone: what went isn't kept, by whatever call it went.
func TestGone(t *testing.T) {
	q, _ := New[*int](4)
	for i := range 6 {
		q.Push(i%2, &i)
	}
	for _, act := range []func(){
		func() {},
		func() { q.Pop() },
		func() { q.Push(0, new(int)); q.Push(0, new(int)) },
		func() { q.Filter(func(p *int) bool { return *p != 0 }) },
		func() { q.Filter(func(p *int) bool { return false }) },
	} {
		act()
		for i, one := range q.items[:cap(q.items)] {
			if (one.v != nil) != (i < q.Len()) {
				t.Errorf("%d items, and place %d has %v", q.Len(), i, one.v)
			}
		}
	}
	q.Push(0, new(int))
	places := q.items[:1]
	if q.Pop(); places[0].v != nil {
		t.Error("what was popped is kept")
	}
}

// TestKinds: items may be of any type: also of one without bytes, and of one that can't be held against another.
func TestKinds(t *testing.T) {
	none, _ := New[struct{}](2)
	funcs, _ := New[func() int](2)
	for i := range 3 {
		none.Push(-i, struct{}{})
		f, full := funcs.Push(-i, func() int { return i })
		if full != (f != nil) || full && f() != 0 {
			t.Errorf("Push %d: %t", i, full)
		}
	}
	if _, rank, ok := none.Peek(); none.Len() != 2 || rank != -2 || !ok {
		t.Errorf("%d items, the first one of rank %d", none.Len(), rank)
	}
	for rank, f := range funcs.All() {
		if f() != -rank {
			t.Errorf("rank %d has %d", rank, f())
		}
	}
	funcs.Filter(func(f func() int) bool { return f() > 1 })
	if f, rank, ok := funcs.Pop(); !ok || rank != -2 || f() != 2 {
		t.Errorf("Pop: %d, %t", rank, ok)
	}
	if f, rank, ok := funcs.Pop(); f != nil || rank != 0 || ok {
		t.Errorf("Pop: %d, %t", rank, ok)
	}
}
