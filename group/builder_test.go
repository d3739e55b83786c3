package group

import (
	"slices"
	"testing"

	"backstay/api"
	"backstay/mixed"
	"backstay/redund"
)

// plain is a builder that keeps all inputs that came, and where the groups ended.
type plain struct {
	size, age int
	control   *redund.Control
	came      []api.Input
	ends      []int
	ticks     int
}

// from: the first frame of those that wait.
func (p *plain) from() int {
	if len(p.ends) == 0 {
		return 0
	}
	return p.ends[len(p.ends)-1]
}

// closed: all that wait, as a group.
func (p *plain) closed(loss int) Group {
	from := p.from()
	list := p.came[from:]
	g := wanted(uint32(len(p.ends)), uint32(from), p.control.Next(len(list), loss), list)
	p.ends = append(p.ends, len(p.came))
	p.ticks = 0
	return g
}

// add: what Add should answer.
func (p *plain) add(in api.Input, loss int) (Group, bool) {
	p.came = append(p.came, in)
	if len(p.came)-p.from() == p.size {
		return p.closed(loss), true
	}
	return Group{}, false
}

// tick: what Tick should answer.
func (p *plain) tick(loss int) (Group, bool) {
	if len(p.came) == p.from() {
		return Group{}, false
	}
	p.ticks++
	if p.ticks == p.age {
		return p.closed(loss), true
	}
	return Group{}, false
}

// pair is a builder, what it should be, and the inputs of all groups that it told.
type pair struct {
	*Builder
	plain *plain
	told  []api.Input
}

// begun: both, as they begin.
func begun(t *testing.T, size, age, most int) *pair {
	t.Helper()
	b, e := New(field, size, age, most)
	control, _ := redund.New(most)
	if e != api.OK || b == nil {
		t.Fatalf("New(%d, %d, %d): %d", size, age, most, e)
	}
	p := &pair{b, &plain{size: size, age: age, control: control}, nil}
	p.asked(t)
	return p
}

// asked: are the counts as they should be?
func (p *pair) asked(t *testing.T) {
	t.Helper()
	frames, groups := len(p.plain.came), len(p.plain.ends)
	waiting := frames - p.plain.from()
	if p.Waiting() != waiting || p.Frames() != frames || p.Groups() != groups {
		t.Fatalf("%d wait, %d frames, %d groups, not %d, %d, %d", p.Waiting(), p.Frames(), p.Groups(), waiting, frames, groups)
	}
	if waiting < 0 || waiting >= p.plain.size {
		t.Fatalf("%d wait, of %d", waiting, p.plain.size)
	}
}

// held: is an answer as it should be? P17.3: with the inputs of the groups ahead of it, and what waits, they are all that came.
func (p *pair) held(t *testing.T, g Group, is bool, want Group, wantIs bool) {
	t.Helper()
	if is != wantIs || !same(g, want) {
		t.Fatalf("%v, %t, not %v, %t", g, is, want, wantIs)
	}
	if is {
		if int(g.First) != len(p.told) {
			t.Fatalf("P17.3: %v, behind %d frames", g, len(p.told))
		}
		inputs, _ := Inputs(g.Data[:g.K]...)
		p.told = append(p.told, inputs...)
	}
	came := p.plain.came
	if len(p.told)+p.Waiting() != len(came) || !slices.Equal(p.told, came[:len(p.told)]) {
		t.Fatalf("P17.3: %v in groups, %d wait, of %v", p.told, p.Waiting(), came)
	}
	p.asked(t)
}

// add: the same of both.
func (p *pair) add(t *testing.T, in api.Input, loss int) (Group, bool) {
	t.Helper()
	g, is := p.Add(in, loss)
	want, wantIs := p.plain.add(in, loss)
	p.held(t, g, is, want, wantIs)
	return g, is
}

// tick: the same of both.
func (p *pair) tick(t *testing.T, loss int) (Group, bool) {
	t.Helper()
	g, is := p.Tick(loss)
	want, wantIs := p.plain.tick(loss)
	p.held(t, g, is, want, wantIs)
	return g, is
}

// P17.2: New's errors, with none; else nothing waits.
func TestNew(t *testing.T) {
	for _, size := range edges {
		for _, age := range edges {
			for _, most := range edges {
				b, e := New(field, size, age, most)
				want := api.OK
				if size < 1 || size > 16 || age < 1 || age > 4096 || most < 0 || most > 16 {
					want = api.ErrRange
				}
				if e != want || (b == nil) != (e != api.OK) {
					t.Fatalf("New(%d, %d, %d): %v, %d", size, age, most, b, e)
				}
				if e == api.OK {
					begun(t, size, age, most)
				}
			}
		}
	}
}

// P17.2: by hand; of 4 inputs 5 parity shards where half gets lost, of 1 input 2.
func TestNumbers(t *testing.T) {
	b, _ := New(field, 4, 3, 16)
	none := func(g Group, is bool) {
		t.Helper()
		if is || !zero(g) {
			t.Errorf("%v, %t", g, is)
		}
	}
	told := func(g Group, is bool, no, first uint32, k, m int) {
		t.Helper()
		if !is || g.No != no || g.First != first || g.K != k || g.M != m || len(g.Data) != k+m {
			t.Errorf("%v, %t", g, is)
		}
	}
	for range 5 {
		none(b.Tick(65536))
	}
	none(b.Add(1, 0))
	none(b.Add(2, 0))
	none(b.Add(3, 0))
	g, is := b.Add(4, 32768)
	told(g, is, 0, 0, 4, 5)
	for range 5 {
		none(b.Tick(65536))
	}
	none(b.Add(5, 65536))
	none(b.Tick(65536))
	none(b.Add(6, 65536))
	none(b.Tick(65536))
	g, is = b.Tick(0)
	told(g, is, 1, 4, 2, 5)
	none(b.Tick(0))
	none(b.Add(7, 0))
	none(b.Tick(0))
	none(b.Tick(0))
	g, is = b.Tick(0)
	told(g, is, 2, 6, 1, 5)
	if b.Waiting() != 0 || b.Frames() != 7 || b.Groups() != 3 {
		t.Errorf("%d, %d, %d", b.Waiting(), b.Frames(), b.Groups())
	}
}

// P17.2: the chapter's example.
func TestExample(t *testing.T) {
	b, _ := New(field, 2, 10, 0)
	if g, is := b.Add(5, 0); is || !zero(g) {
		t.Errorf("Add of 5: %v, %t", g, is)
	}
	if g, is := b.Add(6, 0); !is || !same(g, Group{No: 0, First: 0, K: 2, M: 0, Data: [][]byte{{0, 5}, {0, 6}}}) {
		t.Errorf("Add of 6: %v, %t", g, is)
	}
}

// P17.2: at each size, and each age up to where it is long: a group is told by the tick of that number, and by none ahead of it, whenever others come.
func TestAge(t *testing.T) {
	for size := 2; size <= 16; size++ {
		for _, age := range []int{1, 2, 3, 8, 100, 4095, 4096} {
			p := begun(t, size, age, 1)
			for round := range 3 {
				p.add(t, api.Input(round), 0)
				for tick := 1; tick <= age; tick++ {
					if tick%50 == 2 && p.Waiting() < size-1 {
						p.add(t, api.Input(tick), 0)
					}
					if _, is := p.tick(t, 0); is != (tick == age) {
						t.Fatalf("size %d, age %d: %t at tick %d", size, age, is, tick)
					}
				}
			}
		}
	}
}

// P17.2: a group that is filled ahead of its age: the ticks that it waited aren't those of the next one.
func TestFilled(t *testing.T) {
	for age := 2; age < 9; age++ {
		for waited := range age {
			p := begun(t, 2, age, 1)
			p.add(t, 1, 0)
			for range waited {
				p.tick(t, 0)
			}
			p.add(t, 2, 0)
			p.add(t, 3, 0)
			for tick := 1; tick <= age; tick++ {
				if _, is := p.tick(t, 0); is != (tick == age) {
					t.Fatalf("age %d, %d ticks ahead: %t at tick %d", age, waited, is, tick)
				}
			}
		}
	}
}

// P17.2: each row of ten Adds and Ticks.
func TestRows(t *testing.T) {
	for size := 1; size <= 4; size++ {
		for age := 1; age <= 4; age++ {
			for row := range 1 << 10 {
				p := begun(t, size, age, row%17)
				for step := range 10 {
					loss := (row*7919 + step*30011) % 65537
					if row>>step&1 == 1 {
						p.add(t, api.Input(row*10+step), loss)
					} else {
						p.tick(t, loss)
					}
				}
			}
		}
	}
}

// P17.2, P17.3: long rows.
func TestMany(t *testing.T) {
	for seed := range 60 {
		by := mixed.Bytes(seed, 6)
		p := begun(t, 1+int(by[0]%16), 1+int(by[1]%12), int(by[2]%17))
		few := by[3] % 250
		inputs := some(seed, 1500)
		which := mixed.Bytes(seed+100, 1500)
		loss := 0
		for i, in := range inputs {
			if i%40 == 0 {
				loss = int(inputs[(i+1)%1500]) >> (which[i] % 16)
			}
			if which[i] >= few {
				p.add(t, in, loss)
			} else {
				p.tick(t, loss)
			}
		}
		for range p.plain.age {
			p.tick(t, 0)
		}
		if p.Waiting() != 0 || !slices.Equal(p.told, p.plain.came) {
			t.Fatalf("P17.3: seed %d: at the end %d wait", seed, p.Waiting())
		}
	}
}

// P17.2: the loss counts of the call that closes, not of those ahead of it; groups of a like size have parity shards that fall by one behind each eight.
func TestLoss(t *testing.T) {
	p := begun(t, 4, 9, 16)
	for n := range 60 {
		for range 3 {
			p.add(t, 1, 65536)
		}
		g, _ := p.add(t, 2, 32768>>(n*4))
		if want := max(0, 5-n/8); g.M != want {
			t.Fatalf("group %d has %d parity shards, not %d", n, g.M, want)
		}
	}
}

// P2: a builder keeps nothing of what it told, and has nothing in common with another one.
func TestBuilderApart(t *testing.T) {
	p, other := begun(t, 3, 5, 4), begun(t, 3, 5, 4)
	var groups, were []Group
	for i := range 30 {
		g, is := p.add(t, api.Input(i*1000), 20000)
		if is {
			groups = append(groups, g)
			were = append(were, wanted(g.No, g.First, g.M, p.plain.came[g.First:][:g.K]))
		}
		other.asked(t)
	}
	for i, g := range groups {
		if !same(g, were[i]) {
			t.Errorf("group %d is %v, not %v", i, g, were[i])
		}
		for _, shard := range g.Data {
			spoil(shard)
		}
		p.add(t, api.Input(i), 20000)
	}
	for i := range 10 {
		other.add(t, api.Input(i), 0)
	}
}

// P1: at all losses.
func TestEnds(t *testing.T) {
	for _, first := range edges {
		for _, second := range edges {
			p := begun(t, 2, 1, 16)
			p.add(t, 65535, first)
			p.add(t, 0, second)
			p.tick(t, first)
			p.add(t, 9, first)
			p.tick(t, second)
		}
	}
}
