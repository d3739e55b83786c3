package nack

import (
	"math"
	"slices"
	"testing"

	"backstay/api"
	"backstay/mixed"
	"backstay/told"
)

// numbers: groups that are asked of; all numbers go round.
var numbers = []uint32{3, 0, math.MaxUint32, 1, 7, 2, math.MaxUint32 - 1, 1 << 31, 1<<31 - 1, 1<<31 + 1}

// edges: ticks and rooms around what they are held to, around the longest wait, and at the ends of int.
var edges = []int{
	math.MinInt, math.MinInt + 1, -1 << 32, -4096, -64, -1, 0, 1, 2, 3, 4, 12, 13, 25, 26, 49, 50, 51, 63, 64, 65, 99, 100, 101, 255, 256, 257,
	4095, 4096, 4097, 1<<32 - 1, 1 << 32, 1<<32 + 1, 1 << 40, 1 << 58, 1 << 62, math.MaxInt - 1, math.MaxInt,
}

// TestExample: the chapter's own.
func TestExample(t *testing.T) {
	l, e := New(1)
	if e != api.OK {
		t.Fatal(e)
	}
	l.Wait(3, 2)
	for tick := 1; tick <= 26; tick++ {
		var want []uint32
		if tick == 2 || tick == 10 || tick == 26 { // in 8 ticks, then in 16
			want = []uint32{3}
		}
		if got := l.Tick(4); !slices.Equal(got, want) {
			t.Errorf("tick %d: %v, not %v", tick, got, want)
		}
	}
}

// TestConstants: as they are named.
func TestConstants(t *testing.T) {
	if MostTries != 5 || MostWait != 100 {
		t.Errorf("MostTries %d, MostWait %d", MostTries, MostWait)
	}
}

// TestNew: P19.1: of the rooms that may be, with room for just so many; and of others.
func TestNew(t *testing.T) {
	for _, room := range edges {
		l, e := New(room)
		if room < 1 || room > 64 {
			if l != nil || e != api.ErrRange {
				t.Errorf("New(%d): %v, %d", room, l, e)
			}
			continue
		}
		if e != api.OK || l == nil || l.Len() != 0 || l.Asked() != 0 || l.Full() != 0 {
			t.Fatalf("New(%d): %d", room, e)
		}
		for no := range uint32(room) {
			l.Wait(no, 1)
		}
		if l.Len() != room || l.Full() != 0 {
			t.Errorf("room %d: %d are waited for, Full %d", room, l.Len(), l.Full())
		}
		l.Wait(uint32(room), 1)
		if l.Len() != room || l.Full() != 1 || l.Has(uint32(room)) {
			t.Errorf("room %d: %d are waited for, Full %d", room, l.Len(), l.Full())
		}
	}
}

// TestNothing: what a list tells in which nothing is waited for.
func TestNothing(t *testing.T) {
	p := made(t, 3)
	p.stop(t, 0)
	p.stop(t, 7)
	p.below(t, 0)
	p.below(t, 1<<31)
	for range 9 {
		p.tick(t, 1)
	}
}

// TestTwice: P19.2: of one that is waited for Wait does nothing, whether there is room or not, how often it was asked for, and whatever the ticks.
func TestTwice(t *testing.T) {
	for room := 1; room <= 3; room++ {
		for asked := range 8 {
			for _, ticks := range []int{1, 2, 40, 4096} {
				p := waiting(t, room, 3)
				for p.Asked() < asked {
					p.tick(t, 2)
				}
				p.wait(t, 3, ticks)
				for range 45 {
					p.tick(t, 2)
					p.wait(t, 3, ticks)
				}
				if p.Full() != 0 {
					t.Errorf("room %d: Full %d", room, p.Full())
				}
			}
		}
	}
}

// TestFull: P19.2: Full counts each that has no room, the same one too; room comes back with each that is stopped, not with those that are told.
func TestFull(t *testing.T) {
	for room := 1; room <= 4; room++ {
		p := waiting(t, room, []int{2, 1, 2, 1}[:room]...)
		for n, no := range []uint32{50, 51, 50, 50, 3} {
			p.wait(t, no, 1)
			if p.Full() != min(n+1, 4) {
				t.Errorf("room %d: Full %d behind %d", room, p.Full(), n+1)
			}
		}
		for range 9 {
			p.tick(t, 1)
			p.wait(t, 50, 1)
		}
		if p.Full() != 13 {
			t.Errorf("room %d: Full %d", room, p.Full())
		}
		p.stop(t, 50)
		p.wait(t, 50, 1)
		p.stop(t, 3)
		p.wait(t, 50, 1)
		p.wait(t, 51, 1)
		p.stop(t, 50)
		p.wait(t, 51, 1)
		p.wait(t, 50, 1)
		if p.Full() != 16 || !p.Has(51) || p.Has(50) {
			t.Errorf("room %d: Full %d", room, p.Full())
		}
	}
}

// first: behind how many ticks something is told, of these ticks each; none behind 5000.
func first(p pair, ticks int) int {
	for n := 1; n <= 5000; n++ {
		if len(p.Tick(ticks)) > 0 {
			return n
		}
	}
	return 0
}

// TestHeld: the ticks of Wait and of Tick are held from 1 to 4096.
func TestHeld(t *testing.T) {
	for _, ticks := range edges {
		want := min(max(ticks, 1), 4096)
		p := made(t, 1)
		p.Wait(3, ticks)
		if got := first(p, 1); got != want {
			t.Errorf("Wait(3, %d): told behind %d ticks, not %d", ticks, got, want)
		}
		p = made(t, 1)
		p.Wait(3, 1)
		p.Tick(ticks)
		if got, want := first(p, 1), min(2*want, max(want, 100)); got != want {
			t.Errorf("Tick(%d): told again behind %d ticks, not %d", ticks, got, want)
		}
	}
}

// TestPauses: P19.3: by hand: behind how many ticks one is told again and again.
func TestPauses(t *testing.T) {
	for _, c := range []struct {
		ticks int
		want  []int
	}{
		{1, []int{2, 4, 8, 16, 32, 32, 32, 32}},
		{2, []int{4, 8, 16, 32, 64, 64, 64}},
		{3, []int{6, 12, 24, 48, 96, 96, 96}},
		{4, []int{8, 16, 32, 64, 100, 100, 100}},
		{7, []int{14, 28, 56, 100, 100, 100, 100}},
		{12, []int{24, 48, 96, 100, 100}},
		{13, []int{26, 52, 100, 100, 100}},
		{25, []int{50, 100, 100, 100}},
		{26, []int{52, 100, 100}},
		{49, []int{98, 100, 100}},
		{50, []int{100, 100}},
		{51, []int{100, 100}},
		{100, []int{100, 100, 100, 100, 100, 100, 100}},
		{101, []int{101, 101, 101, 101, 101, 101, 101}},
		{4096, []int{4096, 4096}},
		{math.MaxInt, []int{4096, 4096}},
		{0, []int{2, 4, 8, 16, 32, 32, 32, 32}},
		{math.MinInt, []int{2, 4, 8, 16, 32, 32, 32, 32}},
	} {
		p := made(t, 1)
		p.Wait(3, 1)
		p.Tick(c.ticks)
		for i, want := range c.want {
			if got := first(p, c.ticks); got != want {
				t.Errorf("ticks %d: pause %d is %d, not %d", c.ticks, i, got, want)
			}
		}
		if p.Asked() != len(c.want)+1 {
			t.Errorf("ticks %d: Asked %d", c.ticks, p.Asked())
		}
	}
}

// TestAgain: P19.4: what is waited for is told again and again, each time behind no fewer ticks, and is asked for 5 times at most.
func TestAgain(t *testing.T) {
	for ticks := 1; ticks <= 200; ticks++ {
		p := made(t, 1)
		p.Wait(3, ticks)
		last := 0
		for told := range 20 {
			pause := first(p, ticks)
			if pause == 0 || told > 1 && pause < last {
				t.Fatalf("ticks %d: behind %d ticks, then behind %d", ticks, last, pause)
			}
			last = pause
			for no, tries := range p.All() {
				if no != 3 || tries != min(told+1, 5) {
					t.Fatalf("ticks %d: %d was asked for %d times, told %d", ticks, no, tries, told+1)
				}
			}
			if p.Asked() != told+1 || p.Len() != 1 {
				t.Fatalf("ticks %d: Asked %d, not %d", ticks, p.Asked(), told+1)
			}
		}
	}
}

// TestOtherTicks: P19.3: the ticks that count are those of the Tick that tells, not of Wait, nor of the ticks between.
func TestOtherTicks(t *testing.T) {
	p := made(t, 2)
	p.wait(t, 3, 4)
	for n, ticks := range []int{500, 700, 900, 2, 800, 600, 400, 3} { // told at the 4th one; then in 4 ticks: at the 8th one; then in 12
		if due := p.tick(t, ticks); len(due) > 0 != (n == 3 || n == 7) {
			t.Errorf("tick %d: %v", n+1, due)
		}
	}
	for n := 1; n <= 12; n++ {
		if due := p.tick(t, 1); len(due) > 0 != (n == 12) {
			t.Errorf("tick %d behind them: %v", n, due)
		}
	}
}

// TestAllRows: P19.3: each row of five ticks from 1 to 3 is waited for, and told in order, again and again.
func TestAllRows(t *testing.T) {
	for code := range 3 * 3 * 3 * 3 * 3 {
		var row []int
		for rest := code; len(row) < 5; rest /= 3 {
			row = append(row, 1+rest%3)
		}
		for ticks := 1; ticks <= 3; ticks++ {
			p := waiting(t, 5, row...)
			for range 14 {
				p.tick(t, ticks)
			}
		}
	}
}

// TestOrder: P19.3: by hand: those that are next at one time are told as they were begun, and being told is such a beginning, too.
func TestOrder(t *testing.T) {
	p := made(t, 5)
	for n, step := range []struct {
		waits, ticks int // what is waited for ahead of the tick: a group, and in how many ticks it is next
		want         []uint32
	}{
		{9, 4, nil}, {8, 1, []uint32{8}}, {7, 2, nil}, {6, 1, []uint32{9, 8, 7, 6}},
		{5, 2, nil}, {0, 0, []uint32{9, 7, 6, 5}}, {0, 0, nil}, {0, 0, []uint32{8, 5}},
	} {
		if step.waits > 0 {
			p.wait(t, uint32(step.waits), step.ticks)
		}
		if got := p.tick(t, 1); !slices.Equal(got, step.want) {
			t.Errorf("tick %d: %v, not %v", n+1, got, step.want)
		}
	}
}

// TestStop: P19.2: each choice of groups is stopped, at each tick; the others are told as they would be, and one that is waited for anew has been asked for 0 times.
func TestStop(t *testing.T) {
	for _, row := range [][]int{{1, 1, 1, 1}, {4, 3, 2, 1}, {1, 2, 3, 4}, {2, 1, 2, 1}} {
		for choice := range 1 << len(row) {
			for ahead := range 5 {
				p := waiting(t, 4, row...)
				for range ahead {
					p.tick(t, 1)
				}
				for i := range row {
					if choice>>i&1 == 1 {
						p.stop(t, numbers[i])
						p.stop(t, numbers[i])
					}
				}
				p.tick(t, 1)
				for i := range row {
					p.wait(t, numbers[i], 2)
				}
				for range 7 {
					p.tick(t, 1)
				}
			}
		}
	}
}

// TestBelow: P19.2: going round, at each distance around half of the way; those that are no more waited for aren't told, and make room.
func TestBelow(t *testing.T) {
	for _, base := range []uint32{0, 1, 5, 1 << 31, 1<<31 - 1, math.MaxUint32} {
		for _, c := range []struct {
			by     uint32
			behind bool
		}{
			{0, false}, {1, false}, {2, false}, {1<<31 - 1, false},
			{1 << 31, true}, {1<<31 + 1, true}, {math.MaxUint32 - 1, true}, {math.MaxUint32, true},
		} {
			p := made(t, 1)
			p.wait(t, base+c.by, 1)
			want := 0
			if c.behind {
				want = 1
			}
			if got := p.below(t, base); got != want || p.Has(base+c.by) == c.behind {
				t.Errorf("%d, Below(%d): %d", base+c.by, base, got)
			}
			p.wait(t, 77, 1)
			if p.Has(77) != c.behind {
				t.Errorf("%d, Below(%d): room is %t", base+c.by, base, p.Has(77))
			}
			p.tick(t, 1)
		}
	}
}

// TestBelowMany: P19.2: how many, of lists whose groups are next in any order.
func TestBelowMany(t *testing.T) {
	for _, base := range []uint32{0, math.MaxUint32 - 5} {
		for cut := range uint32(12) {
			p := made(t, 10)
			for i := range uint32(10) {
				p.wait(t, base+i*7%10, int(i*3%4)+1)
			}
			p.tick(t, 1)
			if got, want := p.below(t, base+cut), min(int(cut), 10); got != want || p.Len() != 10-want {
				t.Errorf("Below(%d): %d, not %d", base+cut, got, want)
			}
			if got := p.below(t, base+cut); got != 0 {
				t.Errorf("Below(%d) again: %d", base+cut, got)
			}
			for range 9 {
				p.tick(t, 1)
			}
		}
	}
}

// TestMany: long rows of calls, of all kinds, mixed.
func TestMany(t *testing.T) {
	for seed := range 60 {
		p := made(t, 1+seed%9)
		steps := mixed.Bytes(seed, 1500)
		for i := 0; i < len(steps); i += 3 {
			no, ticks := numbers[int(steps[i+1])%len(numbers)], int(steps[i+2]%9)
			switch steps[i] % 16 {
			case 0:
				p.stop(t, no)
			case 1:
				if ticks == 0 {
					p.below(t, no)
				}
			case 2, 3, 4, 5:
				p.wait(t, no, ticks)
			case 6:
				p.wait(t, no, edges[int(steps[i+2])%len(edges)])
			case 7:
				p.tick(t, edges[int(steps[i+2])%len(edges)])
			default:
				p.tick(t, ticks)
			}
		}
	}
}

// TestGreatest: P19.3: a list of the greatest room, all of it told at one time, again and again, in one order.
func TestGreatest(t *testing.T) {
	p := made(t, 64)
	var want []uint32
	for i := range uint32(64) {
		want = append(want, i*37%64-20)
		p.wait(t, want[i], 5)
	}
	told := 0
	for tick := 1; tick <= 5+10+20+40; tick++ {
		due := p.tick(t, 5)
		if len(due) == 0 {
			continue
		}
		told++
		if !slices.Equal(due, want) {
			t.Errorf("tick %d: %v, not %v", tick, due, want)
		}
	}
	if told != 4 || p.Asked() != 4*64 {
		t.Errorf("told %d times, Asked %d", told, p.Asked())
	}
}

// TestAllOver: All changes nothing, is what is waited for when it is called, and may be gone over again.
func TestAllOver(t *testing.T) {
	p := waiting(t, 4, 4, 2, 4)
	p.tick(t, 1)
	p.tick(t, 3)
	all, want := p.All(), p.plain.all()
	for _, act := range []func(){
		func() {},
		func() { p.wait(t, 7, 1) },
		func() { p.tick(t, 2) },
		func() { p.tick(t, 2) },
		func() { p.stop(t, 3) },
		func() { p.wait(t, 3, 1) },
		func() { p.below(t, 1<<31-2) },
	} {
		act()
		if got := told.All(all); !slices.Equal(got, want) {
			t.Errorf("%v, not %v", got, want)
		}
	}
}

// TestAllEnds: it ends where its user leaves it, and whatever is done meanwhile.
func TestAllEnds(t *testing.T) {
	row := []int{4, 2, 4, 1}
	p := waiting(t, 5, row...)
	for count := 1; count <= 4; count++ {
		var list []uint32
		for no := range p.All() {
			if list = append(list, no); len(list) == count {
				break
			}
		}
		if !slices.Equal(list, []uint32{1, 0, 3, math.MaxUint32}[:count]) {
			t.Errorf("%v, of %d", list, count)
		}
		p.same(t)
	}
	want := p.plain.all()
	for _, act := range []func(p pair, no uint32){
		func(p pair, no uint32) { p.wait(t, no+100, 1) },
		func(p pair, no uint32) { p.stop(t, no) },
		func(p pair, no uint32) { p.tick(t, 1) },
		func(p pair, no uint32) { p.below(t, 2) },
		func(p pair, no uint32) { p.stop(t, 3); p.wait(t, 7, 1) },
	} {
		p = waiting(t, 5, row...)
		var got []told.Pair[uint32, int]
		for no, tries := range p.All() {
			got = append(got, told.Pair[uint32, int]{Key: no, Value: tries})
			act(p, no)
		}
		if !slices.Equal(got, want) {
			t.Errorf("%v, not %v", got, want)
		}
	}
}

// TestOwn: P2: what is answered is its user's own: neither what is put into it nor what it gets behind its end is seen elsewhere.
func TestOwn(t *testing.T) {
	p := waiting(t, 6, 1, 1, 2, 2, 3, 3)
	first := p.tick(t, 9)
	first[0] = 99
	_ = append(first, 98, 97)
	p.same(t)
	second := p.tick(t, 9)
	if !slices.Equal(first, []uint32{99, 0}) || !slices.Equal(second, []uint32{math.MaxUint32, 1}) {
		t.Errorf("%v, %v", first, second)
	}
	second[1] = 96
	for range 30 {
		p.tick(t, 9)
	}
	if !slices.Equal(first, []uint32{99, 0}) || !slices.Equal(second, []uint32{math.MaxUint32, 96}) {
		t.Errorf("%v, %v", first, second)
	}
}

// TestApart: P2: what is done to one list isn't seen at another one.
func TestApart(t *testing.T) {
	a, b := waiting(t, 3, 2, 1), waiting(t, 3, 2, 1)
	a.tick(t, 1)
	b.same(t)
	b.wait(t, 7, 4)
	b.wait(t, 2, 4)
	a.same(t)
	a.below(t, 1<<30)
	b.tick(t, 2)
	a.same(t)
	b.stop(t, 3)
	a.same(t)
}

// TestEnds: P1: at all ticks.
func TestEnds(t *testing.T) {
	for _, first := range edges {
		for _, second := range edges {
			p := made(t, 2)
			p.wait(t, 3, first)
			p.wait(t, 7, 1)
			p.tick(t, first)
			p.tick(t, second)
			p.below(t, uint32(first))
			p.stop(t, uint32(second))
			p.wait(t, uint32(second), second)
			for range 5 {
				p.tick(t, second)
			}
		}
	}
}
