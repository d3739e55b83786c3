package group

import (
	"bytes"
	"math"
	"reflect"
	"slices"
	"testing"

	"backstay/api"
	"backstay/gf"
	"backstay/mixed"
	"backstay/poly"
	"backstay/rs"
	"backstay/told"
	"backstay/wire"
)

var field = gf.New()

// Numbers that are edges of something: of sizes, of ages, of losses, of int.
var edges = []int{
	math.MinInt, math.MinInt + 1, -1 << 32, -65536, -17, -16, -2, -1, 0, 1, 2, 15, 16, 17, 31, 32, 33, 255, 256,
	4095, 4096, 4097, 65535, 65536, 65537, 1<<32 - 1, 1 << 32, 1<<32 + 1, 1 << 62, math.MaxInt - 1, math.MaxInt,
}

// Numbers that a group and its first frame may have.
var numbers = []uint32{0, 1, 2, 77, 1 << 30, 1<<31 - 1, 1 << 31, 1<<32 - 1}

// some: so many inputs, others for each seed.
func some(seed, count int) []api.Input {
	data := mixed.Bytes(seed, 2*count)
	list := make([]api.Input, count)
	for i := range list {
		list[i] = api.Input(data[2*i])<<8 | api.Input(data[2*i+1])
	}
	return list
}

// shards: what the shards of a group should be: at each of both places the values of the one polynomial that goes through the inputs' bytes.
func shards(m int, inputs []api.Input) [][]byte {
	all := make([][]byte, len(inputs)+m)
	for _, off := range []int{8, 0} {
		var points []poly.Point
		for i, in := range inputs {
			points = append(points, poly.Point{X: byte(i), Y: byte(in >> off)})
		}
		p, _ := poly.Through(field, points...)
		for i := range all {
			all[i] = append(all[i], poly.Eval(field, p, byte(i)))
		}
	}
	return all
}

// wanted: what a group should be.
func wanted(no, first uint32, m int, inputs []api.Input) Group {
	return Group{No: no, First: first, K: len(inputs), M: m, Data: shards(m, inputs)}
}

// same: field by field, shard by shard.
func same(a, b Group) bool {
	return a.No == b.No && a.First == b.First && a.K == b.K && a.M == b.M && slices.EqualFunc(a.Data, b.Data, bytes.Equal)
}

// zero: is it the zero Group?
func zero(g Group) bool { return same(g, Group{}) }

// made: a group that there is.
func made(t *testing.T, no, first uint32, m int, inputs ...api.Input) Group {
	t.Helper()
	g, e := Make(field, no, first, m, inputs...)
	if e != api.OK {
		t.Fatalf("Make of %d inputs, %d parity shards: %d", len(inputs), m, e)
	}
	return g
}

// datagram: what that of a shard should be.
func datagram(g Group, i int) api.Datagram {
	kind := api.KindData
	if i >= g.K {
		kind = api.KindParity
	}
	return api.Datagram{Kind: kind, A: g.No, B: g.First, K: g.K, M: g.M, Index: i, Data: slices.Clone(g.Data[i])}
}

// all: what All should tell.
func all(g Group) []told.Pair[int, api.Datagram] {
	var list []told.Pair[int, api.Datagram]
	for i := range g.Data {
		list = append(list, told.Pair[int, api.Datagram]{Key: i, Value: datagram(g, i)})
	}
	return list
}

// equal: are datagrams the same, one by one?
func equal(a, b []told.Pair[int, api.Datagram]) bool { return reflect.DeepEqual(a, b) }

// P17.1: by hand; 3 is 5 + 3 x where x is 2, over the field, and 6 where it is 3.
func TestMakeNumbers(t *testing.T) {
	for _, c := range []struct {
		m      int
		inputs []api.Input
		want   [][]byte
	}{
		{0, []api.Input{5}, [][]byte{{0, 5}}},
		{0, []api.Input{0x1234, 0xff00}, [][]byte{{0x12, 0x34}, {0xff, 0}}},
		{1, []api.Input{5, 6}, [][]byte{{0, 5}, {0, 6}, {0, 3}}},
		{2, []api.Input{0x0500, 0x0600}, [][]byte{{5, 0}, {6, 0}, {3, 0}, {0, 0}}},
		{3, []api.Input{0xfedc}, [][]byte{{0xfe, 0xdc}, {0xfe, 0xdc}, {0xfe, 0xdc}, {0xfe, 0xdc}}},
		{1, []api.Input{0x0101, 0x0202}, [][]byte{{1, 1}, {2, 2}, {7, 7}}},
	} {
		g := made(t, 9, 40, c.m, c.inputs...)
		if want := (Group{No: 9, First: 40, K: len(c.inputs), M: c.m, Data: c.want}); !same(g, want) {
			t.Errorf("Make: %v, not %v", g, want)
		}
	}
	if ShardSize != 2 {
		t.Errorf("ShardSize: %d", ShardSize)
	}
}

// P17.1: as many inputs, and as many parity shards, as there may be.
func TestMake(t *testing.T) {
	for k := 1; k <= 16; k++ {
		for m := range 17 {
			inputs := some(k*17+m, k)
			no, first := numbers[(k+m)%len(numbers)], numbers[(k*m)%len(numbers)]
			g := made(t, no, first, m, inputs...)
			if want := wanted(no, first, m, inputs); !same(g, want) {
				t.Fatalf("Make of %v: %v, not %v", inputs, g, want)
			}
			if got, is := Inputs(g.Data[:k]...); !is || !slices.Equal(got, inputs) {
				t.Fatalf("Inputs: %v, %t, not %v", got, is, inputs)
			}
			mended(t, g, inputs)
		}
	}
}

// mended: of any k shards that stand side by side the inputs can be mended.
func mended(t *testing.T, g Group, inputs []api.Input) {
	t.Helper()
	code, _ := rs.New(field, g.K, g.M)
	for from := range g.M + 1 {
		var list []api.Shard
		for i := from; i < from+g.K; i++ {
			list = append(list, api.Shard{Index: i, Data: g.Data[i]})
		}
		data, e := code.Decode(list...)
		if got, is := Inputs(data...); e != api.OK || !is || !slices.Equal(got, inputs) {
			t.Fatalf("from shard %d on: %v, %d, not %v", from, got, e, inputs)
		}
	}
}

// P17.1: ErrShards, and the zero Group.
func TestMakeRefused(t *testing.T) {
	refused := func(count, m int) {
		t.Helper()
		if g, e := Make(field, 7, 8, m, some(count, count)...); e != api.ErrShards || !zero(g) {
			t.Errorf("Make of %d inputs, %d parity shards: %v, %d", count, m, g, e)
		}
	}
	for _, m := range edges {
		for _, count := range []int{0, 1, 2, 15, 16, 17, 18, 32, 33, 240, 255, 256, 257, 1000} {
			if count < 1 || count > 16 || m < 0 || m > 16 {
				refused(count, m)
			} else {
				made(t, 7, 8, m, some(count, count)...)
			}
		}
	}
	if g, e := Make(field, 0, 0, 0); e != api.ErrShards || !zero(g) {
		t.Errorf("Make of nothing: %v, %d", g, e)
	}
}

// P17.1: the datagram of each shard, and of none.
func TestDatagram(t *testing.T) {
	for k := 1; k <= 16; k++ {
		for m := range 17 {
			g := made(t, numbers[k%len(numbers)], numbers[m%len(numbers)], m, some(k+20*m, k)...)
			for i := range k + m {
				d, e := g.Datagram(i)
				if e != api.OK || !reflect.DeepEqual(d, datagram(g, i)) {
					t.Fatalf("Datagram(%d) of %v: %v, %d", i, g, d, e)
				}
				if e := wire.Check(d); e != api.OK {
					t.Fatalf("Datagram(%d) of %v can't go: %d", i, g, e)
				}
			}
			for _, i := range append([]int{k + m, k + m + 1}, edges...) {
				if i >= 0 && i < k+m {
					continue
				}
				if d, e := g.Datagram(i); e != api.ErrIndex || !reflect.DeepEqual(d, api.Datagram{}) {
					t.Fatalf("Datagram(%d) of %v: %v, %d", i, g, d, e)
				}
			}
		}
	}
}

// P17.1: the kinds, by hand; 3 is 1 + x where x is 2, over the field, and 10 is 2 + 4 x.
func TestDatagramNumbers(t *testing.T) {
	g := made(t, 9, 40, 1, 0x0102, 6)
	for i, want := range []api.Datagram{
		{Kind: api.KindData, A: 9, B: 40, K: 2, M: 1, Index: 0, Data: []byte{1, 2}},
		{Kind: api.KindData, A: 9, B: 40, K: 2, M: 1, Index: 1, Data: []byte{0, 6}},
		{Kind: api.KindParity, A: 9, B: 40, K: 2, M: 1, Index: 2, Data: []byte{3, 10}},
	} {
		if d, e := g.Datagram(i); e != api.OK || !reflect.DeepEqual(d, want) {
			t.Errorf("Datagram(%d): %v, %d, not %v", i, d, e, want)
		}
	}
}

// P17.1: All goes over all shards, as often as it is gone over, and goes no further than it is let.
func TestAll(t *testing.T) {
	for k := 1; k <= 16; k++ {
		for m := range 17 {
			g := made(t, 3, 5, m, some(k*m, k)...)
			want := all(g)
			over := g.All()
			if got := told.All(over); !equal(got, want) || !equal(told.All(over), want) {
				t.Fatalf("All of %v: %v", g, got)
			}
			for stop := range k + m {
				var got []told.Pair[int, api.Datagram]
				for i, d := range over {
					got = append(got, told.Pair[int, api.Datagram]{Key: i, Value: d})
					if i == stop {
						break
					}
				}
				if !equal(got, want[:stop+1]) {
					t.Fatalf("All of %v, left at %d: %v", g, stop, got)
				}
			}
		}
	}
	if got := told.All(Group{}.All()); len(got) != 0 {
		t.Errorf("All of the zero Group: %v", got)
	}
}

// P17.1: Inputs; one of another length, at any place, and there are none.
func TestInputs(t *testing.T) {
	if got, is := Inputs(); !is || len(got) != 0 {
		t.Errorf("Inputs of nothing: %v, %t", got, is)
	}
	if got, is := Inputs([]byte{1, 2}, []byte{255, 0}, []byte{0, 255}); !is || !slices.Equal(got, []api.Input{0x0102, 0xff00, 0x00ff}) {
		t.Errorf("Inputs: %v, %t", got, is)
	}
	for _, count := range []int{1, 2, 3, 16, 17, 32, 300} {
		inputs := some(count, count)
		list := shards(0, inputs[:min(count, 255)])
		if got, is := Inputs(list...); !is || !slices.Equal(got, inputs[:len(list)]) {
			t.Fatalf("Inputs of %v: %v, %t", list, got, is)
		}
		for at := range list {
			for _, wrong := range [][]byte{nil, {}, {1}, {1, 2, 3}, mixed.Bytes(1, 4), mixed.Bytes(1, 258), mixed.Bytes(2, 65538)} {
				broken := slices.Clone(list)
				broken[at] = wrong
				if got, is := Inputs(broken...); is || len(got) != 0 {
					t.Fatalf("Inputs of %v: %v, %t", broken, got, is)
				}
			}
		}
	}
}

// P1: every input there is.
func TestEveryInput(t *testing.T) {
	for n := 0; n < 1<<16; n += 16 {
		var inputs []api.Input
		for i := range 16 {
			inputs = append(inputs, api.Input(n+i))
		}
		g := made(t, 0, 0, 0, inputs...)
		for i, shard := range g.Data {
			if !bytes.Equal(shard, []byte{byte((n + i) >> 8), byte(n + i)}) {
				t.Fatalf("the shard of %d is %v", n+i, shard)
			}
		}
		if got, is := Inputs(g.Data...); !is || !slices.Equal(got, inputs) {
			t.Fatalf("Inputs: %v, not %v", got, inputs)
		}
	}
}

// P1: groups that no call answers have calls that end too; the shards that there are count.
func TestOtherGroups(t *testing.T) {
	for _, g := range []Group{
		{}, {K: 3, M: 2}, {K: -1, M: -1}, {K: math.MinInt, M: math.MaxInt}, {K: math.MaxInt, M: math.MaxInt}, {Data: [][]byte{}},
		{K: 2, M: 1, Data: [][]byte{{1, 2}}}, {Data: [][]byte{{1}, {}, {1, 2, 3}}}, {K: 9, Data: [][]byte{{4, 5}, {6, 7}}}, {K: math.MinInt, Data: [][]byte{{4, 5}}},
	} {
		if got := told.All(g.All()); len(got) != len(g.Data) || (len(got) > 0 && !equal(got, all(g))) {
			t.Errorf("All of %v: %v", g, got)
		}
		for _, i := range edges {
			d, e := g.Datagram(i)
			if i < 0 || i >= len(g.Data) {
				if e != api.ErrIndex || !reflect.DeepEqual(d, api.Datagram{}) {
					t.Errorf("Datagram(%d) of %v: %v, %d", i, g, d, e)
				}
			} else if e != api.OK || !reflect.DeepEqual(d, datagram(g, i)) {
				t.Errorf("Datagram(%d) of %v: %v, %d", i, g, d, e)
			}
		}
	}
}

// spoil: all of a list's bytes, and of its spare room.
func spoil(list []byte) {
	list = list[:cap(list)]
	for i := range list {
		list[i] ^= 0x55
	}
}

// P2: what is handed in is neither changed nor kept; what is answered shares nothing.
func TestApart(t *testing.T) {
	room := some(5, 20)
	inputs := slices.Clone(room)[:4]
	g := made(t, 1, 2, 3, inputs...)
	want := wanted(1, 2, 3, room[:4])
	if !slices.Equal(inputs[:20], room) {
		t.Errorf("the inputs are %v, not %v", inputs[:20], room)
	}
	clear(inputs)
	if !same(g, want) {
		t.Errorf("it is %v, not %v", g, want)
	}

	over := g.All()
	again := made(t, 1, 2, 3, room[:4]...)
	for i := range g.Data {
		d, _ := g.Datagram(i)
		spoil(d.Data)
	}
	for _, d := range g.All() {
		spoil(d.Data)
	}
	if !same(g, want) {
		t.Errorf("behind changed datagrams it is %v, not %v", g, want)
	}
	for i, shard := range g.Data {
		spoil(shard)
		if rest := g.Data[i+1:]; !slices.EqualFunc(rest, want.Data[i+1:], bytes.Equal) {
			t.Errorf("behind a change of shard %d: %v", i, rest)
		}
	}
	if !same(again, want) {
		t.Errorf("behind a change of its twin it is %v, not %v", again, want)
	}
	if !equal(told.All(over), all(want)) {
		t.Errorf("All tells %v, not what there was", told.All(over))
	}
	g.Data[0] = nil
	for _, d := range over {
		spoil(d.Data)
	}
	if !equal(told.All(over), all(want)) {
		t.Errorf("All tells %v the second time", told.All(over))
	}
}

// P2: Inputs changes no shard, and keeps none.
func TestInputsApart(t *testing.T) {
	room := mixed.Bytes(3, 12)
	data := slices.Clone(room)
	list := [][]byte{data[0:2], data[4:6], data[8:10]}
	got, _ := Inputs(list...)
	want := slices.Clone(got)
	other, _ := Inputs(list...)
	clear(other)
	if !bytes.Equal(data, room) {
		t.Errorf("the shards are %v, not %v", data, room)
	}
	clear(data)
	if !slices.Equal(got, want) {
		t.Errorf("the inputs are %v, not %v", got, want)
	}
}
