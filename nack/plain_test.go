package nack

import (
	"cmp"
	"slices"
	"testing"

	"backstay/api"
	"backstay/told"
)

// group is one that is waited for: how often it was asked for, and the tick at which it is next.
type group struct {
	no    uint32
	tries int
	next  int
}

// plain keeps what is waited for as it was put in, and looks through all of it for each answer.
type plain struct {
	room   int
	now    int
	asked  int
	full   int
	groups []group // those that were put in first, or in again, first
}

// limited: ticks, from 1 to 4096.
func limited(ticks int) int {
	if ticks < 1 {
		return 1
	}
	if ticks > 4096 {
		return 4096
	}
	return ticks
}

// pause: for how many ticks a group isn't told again, behind so many askings.
func pause(ticks, tries int) int {
	ticks = limited(ticks)
	most := 100
	if ticks > most {
		most = ticks
	}
	long := ticks
	for range tries {
		if long += long; long > most {
			return most
		}
	}
	return long
}

// at: the place of a group; -1, if it isn't waited for.
func (p *plain) at(no uint32) int {
	for i, g := range p.groups {
		if g.no == no {
			return i
		}
	}
	return -1
}

// wait: as Wait should.
func (p *plain) wait(no uint32, ticks int) {
	if p.at(no) >= 0 {
		return
	}
	if len(p.groups) == p.room {
		p.full++
		return
	}
	p.groups = append(p.groups, group{no, 0, p.now + limited(ticks)})
}

// stop: as Stop should.
func (p *plain) stop(no uint32) {
	if i := p.at(no); i >= 0 {
		p.groups = slices.Delete(p.groups, i, i+1)
	}
}

// below: what Below should tell.
func (p *plain) below(no uint32) int {
	var others []group
	for _, g := range p.groups {
		if g.no-no < 1<<31 {
			others = append(others, g)
		}
	}
	count := len(p.groups) - len(others)
	p.groups = others
	return count
}

// ordered: all groups, those that are next first.
func (p *plain) ordered() []group {
	list := slices.Clone(p.groups)
	slices.SortStableFunc(list, func(a, b group) int { return cmp.Compare(a.next, b.next) })
	return list
}

// tick: what Tick should tell.
func (p *plain) tick(ticks int) []uint32 {
	p.now++
	var due []uint32
	for _, g := range p.ordered() {
		if g.next != p.now {
			continue
		}
		p.stop(g.no)
		g.tries = min(g.tries+1, 5)
		g.next = p.now + pause(ticks, g.tries)
		p.groups = append(p.groups, g)
		due = append(due, g.no)
	}
	p.asked += len(due)
	return due
}

// all: what All should go over.
func (p *plain) all() []told.Pair[uint32, int] {
	var list []told.Pair[uint32, int]
	for _, g := range p.ordered() {
		list = append(list, told.Pair[uint32, int]{Key: g.no, Value: g.tries})
	}
	return list
}

// pair is a list, and what it should be.
type pair struct {
	*List
	plain *plain
}

// made: both without groups.
func made(t *testing.T, room int) pair {
	t.Helper()
	l, e := New(room)
	if e != api.OK || l == nil {
		t.Fatalf("New(%d): %d", room, e)
	}
	p := pair{l, &plain{room: room}}
	p.same(t)
	return p
}

// same: do the calls that change nothing tell what they should, and is nothing kept of a group that isn't waited for?
func (p pair) same(t *testing.T) {
	t.Helper()
	if p.Len() != len(p.plain.groups) || p.Asked() != p.plain.asked || p.Full() != p.plain.full {
		t.Fatalf("Len %d, Asked %d, Full %d, not as of %+v", p.Len(), p.Asked(), p.Full(), *p.plain)
	}
	for _, no := range numbers {
		if got, want := p.Has(no), p.plain.at(no) >= 0; got != want {
			t.Fatalf("Has(%d): %t, not %t", no, got, want)
		}
	}
	if got, want := told.All(p.All()), p.plain.all(); !slices.Equal(got, want) {
		t.Fatalf("All: %v, not %v", got, want)
	}
	if len(p.tries) != len(p.plain.groups) || p.next.Len() != len(p.plain.groups) {
		t.Fatalf("of %d groups %d and %d are kept", len(p.plain.groups), len(p.tries), p.next.Len())
	}
}

// Each of these does the same to both, and asks what came of it.

func (p pair) wait(t *testing.T, no uint32, ticks int) {
	t.Helper()
	p.Wait(no, ticks)
	p.plain.wait(no, ticks)
	p.same(t)
}

func (p pair) stop(t *testing.T, no uint32) {
	t.Helper()
	p.Stop(no)
	p.plain.stop(no)
	p.same(t)
}

func (p pair) below(t *testing.T, no uint32) int {
	t.Helper()
	got := p.Below(no)
	if want := p.plain.below(no); got != want {
		t.Fatalf("Below(%d): %d, not %d", no, got, want)
	}
	p.same(t)
	return got
}

func (p pair) tick(t *testing.T, ticks int) []uint32 {
	t.Helper()
	got := p.Tick(ticks)
	if want := p.plain.tick(ticks); !slices.Equal(got, want) {
		t.Fatalf("Tick(%d): %v, not %v", ticks, got, want)
	}
	p.same(t)
	return got
}

// waiting: a list of that room in which the first numbers are waited for, next in these ticks.
func waiting(t *testing.T, room int, ticks ...int) pair {
	t.Helper()
	p := made(t, room)
	for i, one := range ticks {
		p.wait(t, numbers[i], one)
	}
	return p
}
