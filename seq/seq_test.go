package seq

import (
	"encoding/binary"
	"math"
	"slices"
	"testing"

	"backstay/api"
	"backstay/mixed"
)

// plain keeps all that came, number by number, as places on a line that doesn't go round.
type plain struct {
	came       map[int64]bool
	first, top int64
	twice      int
}

// take: what Take should tell.
func (p *plain) take(n uint32) api.Errno {
	if p.came == nil {
		*p = plain{came: map[int64]bool{int64(n): true}, first: int64(n), top: int64(n)}
		return api.OK
	}
	at := p.top + int64(int32(n-uint32(p.top)))
	if at <= p.top-64 {
		return api.ErrOld
	}
	if p.came[at] {
		p.twice++
		return api.ErrTwice
	}
	p.came[at] = true
	p.top = max(p.top, at)
	return api.OK
}

// seen: what the fields should be. Lost are all places that went out, from 63 ahead of the first number on, but for those that came.
func (p *plain) seen() Seen {
	if p.came == nil {
		return Seen{}
	}
	s := Seen{Any: true, Top: uint32(p.top), Came: len(p.came), Twice: p.twice, Lost: int(p.top - p.first)}
	for at := range p.came {
		if back := p.top - at; back < 64 {
			s.Bits |= 1 << back
		} else {
			s.Lost--
		}
	}
	return s
}

// missing: what Missing should go over.
func (p *plain) missing() []uint32 {
	var list []uint32
	for at := p.top - 63; p.came != nil && at <= p.top; at++ {
		if !p.came[at] {
			list = append(list, uint32(at))
		}
	}
	return list
}

// holes: what Holes should tell.
func (p *plain) holes(n int) int {
	var count int
	for at := p.top - int64(max(0, min(n, 64))) + 1; p.came != nil && at <= p.top; at++ {
		if !p.came[at] {
			count++
		}
	}
	return count
}

// has: what Has should tell.
func (p *plain) has(n uint32) bool {
	at := p.top + int64(int32(n-uint32(p.top)))
	return p.came[at] && at > p.top-64
}

// pair is a Seen, and what it should be.
type pair struct {
	seen  Seen
	plain plain
}

// take: does Take tell what it should, and are the fields then as they should be?
func (p *pair) take(t *testing.T, n uint32) {
	t.Helper()
	was := p.seen
	got, want := p.seen.Take(n), p.plain.take(n)
	if got != want || p.seen != p.plain.seen() {
		t.Fatalf("Take(%d) at %+v: %d, %+v, not %d, %+v", n, was, got, p.seen, want, p.plain.seen())
	}
}

// asked: do the other calls tell what they should, and change nothing?
func (p *pair) asked(t *testing.T) {
	t.Helper()
	was := p.seen
	if got, want := slices.Collect(p.seen.Missing()), p.plain.missing(); !slices.Equal(got, want) {
		t.Fatalf("Missing at %+v: %v, not %v", was, got, want)
	}
	for n := -2; n <= 67; n++ {
		if got, want := p.seen.Holes(n), p.plain.holes(n); got != want {
			t.Fatalf("Holes(%d) at %+v: %d, not %d", n, was, got, want)
		}
	}
	for _, n := range []int{math.MinInt, math.MinInt + 1, math.MinInt32, -64, 127, 128, 1 << 32, 1<<32 + 3, math.MaxInt - 1, math.MaxInt} {
		if got, want := p.seen.Holes(n), p.plain.holes(n); got != want {
			t.Fatalf("Holes(%d) at %+v: %d, not %d", n, was, got, want)
		}
	}
	for back := -70; back <= 140; back++ {
		n := was.Top - uint32(back)
		if got, want := p.seen.Has(n), p.plain.has(n); got != want {
			t.Fatalf("Has(%d) at %+v: %v, not %v", n, was, got, want)
		}
	}
	for bit := range 32 {
		for _, n := range []uint32{was.Top + 1<<bit, was.Top - 1<<bit, was.Top + 1<<bit - 1, was.Top - 1<<bit + 1} {
			if got, want := p.seen.Has(n), p.plain.has(n); got != want {
				t.Fatalf("Has(%d) at %+v: %v, not %v", n, was, got, want)
			}
		}
	}
	if p.seen != was {
		t.Fatalf("asking made %+v of %+v", p.seen, was)
	}
}

// TestExamples: the chapter's own.
func TestExamples(t *testing.T) {
	var s Seen
	for at, n := range []uint32{5, 7, 5} {
		if got, want := s.Take(n), [...]api.Errno{api.OK, api.OK, api.ErrTwice}[at]; got != want {
			t.Errorf("Take(%d): %d, not %d", n, got, want)
		}
	}
	if got := s.Holes(2); got != 1 {
		t.Errorf("Holes(2): %d", got)
	}
	if want := (Seen{Any: true, Top: 7, Bits: 5, Came: 2, Twice: 1, Lost: 2}); s != want {
		t.Errorf("%+v, not %+v", s, want)
	}
}

// TestNothingCame: the zero Seen is as it begins, also where a number's bit would be 0.
func TestNothingCame(t *testing.T) {
	var p pair
	p.asked(t)
	for n := range p.seen.Missing() {
		t.Errorf("%d is missing", n)
	}
	for _, n := range []uint32{0, 1, 63, 64, 1 << 31, math.MaxUint32} {
		if p.seen.Has(n) {
			t.Errorf("Has(%d)", n)
		}
	}
}

// TestFirst: whatever the first number is, nothing is lost by it, and those ahead of it are missing.
func TestFirst(t *testing.T) {
	for _, n := range []uint32{0, 1, 62, 63, 64, 65, 1<<31 - 1, 1 << 31, 1<<31 + 1, math.MaxUint32 - 1, math.MaxUint32} {
		var p pair
		p.take(t, n)
		if want := (Seen{Any: true, Top: n, Bits: 1, Came: 1}); p.seen != want {
			t.Errorf("%+v, not %+v", p.seen, want)
		}
		p.asked(t)
		if list := slices.Collect(p.seen.Missing()); len(list) != 63 || list[0] != n-63 || list[62] != n-1 {
			t.Errorf("behind %d these are missing: %v", n, list)
		}
		p.take(t, n)
		p.asked(t)
	}
}

// TestMoves: by so much, at some numbers that came.
func TestMoves(t *testing.T) {
	for _, start := range []uint32{0, 1000, 1 << 31, math.MaxUint32 - 70, math.MaxUint32 - 2} {
		for _, list := range [][]uint32{{0}, {0, 63}, {0, 1}, {63, 0}, {5, 0, 60, 62}, {0, 200, 137, 201}} {
			for _, by := range []uint32{1, 2, 31, 32, 62, 63, 64, 65, 66, 127, 128, 129, 1 << 16, 1<<31 - 1} {
				var p pair
				for _, n := range list {
					p.take(t, start+n)
				}
				p.take(t, p.seen.Top+by)
				p.asked(t)
			}
		}
	}
}

// TestLostOfAllThatCame: where all of the last 64 came, only those that are skipped are lost.
func TestLostOfAllThatCame(t *testing.T) {
	for _, w := range []struct {
		by   uint32
		lost int
	}{{1, 63}, {63, 63}, {64, 63}, {65, 64}, {66, 65}, {164, 163}} {
		var p pair
		for n := range uint32(64) {
			p.take(t, n)
		}
		if p.seen.Lost != 63 || p.seen.Bits != math.MaxUint64 || p.seen.Holes(64) != 0 {
			t.Fatalf("when all came: %+v", p.seen)
		}
		p.take(t, 63+w.by)
		if p.seen.Lost != w.lost {
			t.Errorf("by %d: %d lost, not %d", w.by, p.seen.Lost, w.lost)
		}
	}
}

// TestOld: 64 behind the newest one, and more, up to half of the way round, a number is too old, and changes nothing, whether it came or not.
func TestOld(t *testing.T) {
	for _, top := range []uint32{0, 5, 63, 64, 100, 1 << 31, math.MaxUint32} {
		var p pair
		p.take(t, top-64)
		p.take(t, top-63)
		p.take(t, top)
		was := p.seen
		for _, back := range []uint32{64, 65, 66, 127, 128, 256, 1 << 16, 1<<31 - 1, 1 << 31} {
			if e := p.seen.Take(top - back); e != api.ErrOld || p.seen != was {
				t.Errorf("Take of %d behind %d: %d, %+v, not %+v", back, top, e, p.seen, was)
			}
		}
		if e := p.seen.Take(top - 63); e != api.ErrTwice {
			t.Errorf("Take of 63 behind %d: %d", top, e)
		}
		if e := p.seen.Take(top - 62); e != api.OK {
			t.Errorf("Take of 62 behind %d: %d", top, e)
		}
		// One less than half of the way round ahead is newer.
		if e := p.seen.Take(top + 1<<31 - 1); e != api.OK || p.seen.Top != top+1<<31-1 {
			t.Errorf("Take of 2^31 - 1 ahead of %d: %d, %+v", top, e, p.seen)
		}
	}
}

// TestMany: long rows of numbers, most of them near the newest one, some of them far ahead or behind, going round.
func TestMany(t *testing.T) {
	for seed := range 60 {
		var p pair
		from := binary.LittleEndian.Uint32(mixed.Bytes(seed, 4))
		if seed%2 == 0 {
			from = math.MaxUint32 - uint32(seed)*5
		}
		p.take(t, from)
		steps := mixed.Bytes(seed+1000, 1200)
		for i := 0; i < len(steps); i += 3 {
			by := uint32(int32(steps[i]%80) - 70)
			switch steps[i+1] {
			case 0:
				by = uint32(steps[i+2]) << 23
			case 1, 2, 3:
				by = 50 + uint32(steps[i+2])%30
			}
			p.take(t, p.seen.Top+by)
			if i%30 == 0 {
				p.asked(t)
			}
		}
	}
}

// TestOnce: P8.3: numbers that come several times, in any order within the last 64, are taken once.
func TestOnce(t *testing.T) {
	for seed := range 50 {
		var s Seen
		from := uint32(seed*97) - 1000
		s.Take(from + 199)
		taken := map[uint32]int{}
		for _, b := range mixed.Bytes(seed, 3000) {
			// Ahead of these nothing comes, so all of them stay less than 64 behind.
			n := from + 199 - uint32(b)%64
			had := s.Has(n)
			e := s.Take(n)
			if had != (e == api.ErrTwice) || !s.Has(n) {
				t.Fatalf("Take(%d): %d, when Has told %v; then it tells %v", n, e, had, s.Has(n))
			}
			if e == api.OK {
				taken[n]++
			}
		}
		for back := range uint32(63) {
			if n := from + 198 - back; taken[n] != 1 {
				t.Errorf("%d was taken %d times", n, taken[n])
			}
		}
		if taken[from+199] != 0 || s.Came != 64 || s.Twice != 3001-64 || s.Lost != 0 {
			t.Errorf("the first was taken %d times more; %+v", taken[from+199], s)
		}
	}
}

// TestMissingEndsEarly: it ends where its user leaves it, and goes over all anew.
func TestMissingEndsEarly(t *testing.T) {
	var s Seen
	s.Take(10)
	s.Take(13)
	list := s.Missing()
	for count := range 63 {
		var got []uint32
		for n := range list {
			if len(got) == count {
				break
			}
			got = append(got, n)
		}
		if len(got) != min(count, 62) || count > 0 && got[0] != math.MaxUint32-49 {
			t.Errorf("%d of them: %v", count, got)
		}
	}
	if got := slices.Collect(list); len(got) != 62 || !slices.Equal(got[58:], []uint32{8, 9, 11, 12}) {
		t.Errorf("all of them: %v", got)
	}
}

// TestMissingStays: what was answered hangs on what came ahead of it, not on what comes while or before it is gone over.
func TestMissingStays(t *testing.T) {
	var s Seen
	none := s.Missing()
	s.Take(100)
	list := s.Missing()
	want := slices.Collect(s.Missing())
	for n := range none {
		t.Errorf("%d is missing, where nothing had come", n)
	}
	var got []uint32
	for n := range list {
		got = append(got, n)
		if e := s.Take(n); e != api.OK {
			t.Errorf("Take(%d): %d", n, e)
		}
	}
	if !slices.Equal(got, want) || s.Holes(64) != 0 {
		t.Errorf("%v, not %v; %+v", got, want, s)
	}
	s.Take(500)
	if got := slices.Collect(list); !slices.Equal(got, want) {
		t.Errorf("%v, not %v, when others had come", got, want)
	}
}

// TestApart: a copy goes its own way.
func TestApart(t *testing.T) {
	var a Seen
	a.Take(7)
	b := a
	a.Take(9)
	b.Take(8)
	if a != (Seen{Any: true, Top: 9, Bits: 5, Came: 2, Lost: 2}) || b != (Seen{Any: true, Top: 8, Bits: 3, Came: 2, Lost: 1}) {
		t.Errorf("%+v and %+v", a, b)
	}
}
