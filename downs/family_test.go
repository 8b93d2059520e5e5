package downs

import (
	"math"
	"slices"
	"testing"

	"watershed/api"
	"watershed/order"
)

// downSetsOf says C2's words, word by word; as many as there are.
func downSetsOf(o api.Order) []uint32 {
	var list []uint32
	for set := uint32(0); set < 1<<uint(o.N); set++ {
		ok := true
		for i := 0; ok && i < o.N; i++ {
			for j := range o.N {
				ok = ok && !(isIn(set, i) && isBelow(o, j, i) && !isIn(set, j))
			}
		}
		if ok {
			list = append(list, set)
		}
	}
	return list
}

// refusesAll holds All against the error that it must tell, with nothing beside it.
func refusesAll(t *testing.T, o api.Order, want api.Errno) {
	t.Helper()
	if l, e := All(o); e != want || len(l) != 0 {
		t.Error("All", o, l, e, want)
	}
}

// refusesCount holds Count against the error that it must tell, with nothing beside it.
func refusesCount(t *testing.T, o api.Order, want api.Errno) {
	t.Helper()
	if n, e := Count(o); e != want || n != 0 {
		t.Error("Count", o, n, e, want)
	}
}

// counts holds Count against how many down-sets there are.
func counts(t *testing.T, o api.Order, want int) {
	t.Helper()
	if n, e := Count(o); e != api.OK || n != want {
		t.Error("Count", o, n, e, want)
	}
}

func refusesInclusion(t *testing.T, o api.Order, want api.Errno) {
	t.Helper()
	if p, e := Inclusion(o); e != want || p.N != 0 || len(p.Up) != 0 {
		t.Error("Inclusion", o, p, e, want)
	}
}

// C2, C3: over many orders, of which some have too many down-sets for Inclusion, some for All, too; Count tells of all of them.
func TestFamilies(t *testing.T) {
	few, more, most := 0, 0, 0
	for _, o := range manyOrders(t) {
		want := downSetsOf(o)
		counts(t, o, len(want))
		switch {
		case len(want) > api.MaxDowns:
			most++
			refusesAll(t, o, api.ErrLarge)
		default:
			more++
			if l, e := All(o); e != api.OK || !slices.Equal(l, want) {
				t.Fatal(o, l, e, want)
			}
		}
		if len(want) > api.MaxN {
			refusesInclusion(t, o, api.ErrLarge)
			continue
		}
		few++
		includes(t, o, want)
	}
	if few < 200 || more-few < 20 || most < 20 {
		t.Error("not all kinds are seen", few, more, most)
	}
}

// includes holds Inclusion against C3's words, sets being the down-sets.
func includes(t *testing.T, o api.Order, sets []uint32) {
	t.Helper()
	p, e := Inclusion(o)
	if e != api.OK || p.N != len(sets) || order.Check(p) != api.OK {
		t.Fatal(o, p, e)
	}
	for a := range sets {
		for b := range sets {
			within := true
			for i := range o.N {
				within = within && (!isIn(sets[a], i) || isIn(sets[b], i))
			}
			if isBelow(p, a, b) != within {
				t.Fatal(o, p, a, b)
			}
		}
	}
}

// C2: as many as may be are told; one more is too many for All, but not for Count.
func TestMostDowns(t *testing.T) {
	for _, o := range []api.Order{flat(t, 8), lines(t, 3, 3, 3, 3), lines(t, 7, 3, 3, 1), dual(t, lines(t, 7, 3, 3, 1))} {
		if l, e := All(o); e != api.OK || len(l) != 256 || !slices.IsSorted(l) || l[0] != 0 || l[255] != 1<<uint(o.N)-1 {
			t.Error(o, l, e)
		}
		counts(t, o, 256)
		refusesInclusion(t, o, api.ErrLarge)
	}
	for _, c := range []struct {
		o api.Order
		n int
	}{
		{rooted(t, flat(t, 8)), 257},
		{dual(t, rooted(t, flat(t, 8))), 257},
		{rooted(t, lines(t, 3, 3, 3, 3)), 257},
		{flat(t, 9), 512},
		{lines(t, 4, 4, 4, 4), 625},
		{api.Order{N: 14, Up: []uint32{1, 2, 518, 8, 17, 32, 64, 4738, 256, 514, 1024, 3089, 4610, 12819}}, 1088},
		{rooted(t, flat(t, 15)), 32769},
		{flat(t, 16), 65536},
	} {
		counts(t, c.o, c.n)
		refusesAll(t, c.o, api.ErrLarge)
		refusesInclusion(t, c.o, api.ErrLarge)
	}
}

// C2: of elements side by side each set is a down-set; of lines side by side each line has its beginnings.
func TestCountByHand(t *testing.T) {
	for n := range api.MaxN + 1 {
		counts(t, flat(t, n), 1<<uint(n))
		counts(t, lines(t, n), n+1)
		counts(t, lines(t, n, api.MaxN-n), (n+1)*(api.MaxN-n+1))
	}
}

// C3: as many as an order may have are told; one more is too many.
func TestMostIncluded(t *testing.T) {
	for _, o := range []api.Order{flat(t, 4), lines(t, 15), lines(t, 3, 3), lines(t, 1, 7)} {
		p, e := Inclusion(o)
		if e != api.OK || p.N != 16 || p.Up[0] != 1<<16-1 || p.Up[15] != 1<<15 {
			t.Error(o, p, e)
		}
	}
	for _, o := range []api.Order{rooted(t, flat(t, 4)), lines(t, 16), rooted(t, lines(t, 3, 3))} {
		counts(t, o, 17)
		refusesInclusion(t, o, api.ErrLarge)
	}
}

// C2, C3: of no elements there is one down-set, which is empty.
func TestOfNothing(t *testing.T) {
	for _, o := range []api.Order{{}, {Up: []uint32{}}} {
		if l, e := All(o); e != api.OK || !slices.Equal(l, []uint32{0}) {
			t.Error(l, e)
		}
		counts(t, o, 1)
		if p, e := Inclusion(o); e != api.OK || p.N != 1 || !slices.Equal(p.Up, []uint32{1}) {
			t.Error(p, e)
		}
		for _, f := range []func(api.Order, uint32) (uint32, api.Errno){Down, Maximal, Minimal} {
			if w, e := f(o, 0); e != api.OK || w != 0 {
				t.Error(w, e)
			}
		}
	}
}

// The chapter's example, and lines, whose down-sets are their beginnings.
func TestFamiliesByHand(t *testing.T) {
	if l, e := All(flat(t, 2)); e != api.OK || !slices.Equal(l, []uint32{0, 1, 2, 3}) {
		t.Error(l, e)
	}
	if p, e := Inclusion(flat(t, 2)); e != api.OK || p.N != 4 || !slices.Equal(p.Up, []uint32{15, 10, 12, 8}) {
		t.Error(p, e)
	}
	if l, e := All(lines(t, 4)); e != api.OK || !slices.Equal(l, []uint32{0, 1, 3, 7, 15}) {
		t.Error(l, e)
	}
	// Upside down by its numbers: they begin with the last element.
	if l, e := All(dual(t, lines(t, 4))); e != api.OK || !slices.Equal(l, []uint32{0, 8, 12, 14, 15}) {
		t.Error(l, e)
	}
	// 2 below 0, and 1 alone.
	o := made(t, 3, []api.Pair{{A: 2, B: 0}})
	if l, e := All(o); e != api.OK || !slices.Equal(l, []uint32{0, 2, 4, 5, 6, 7}) {
		t.Error(l, e)
	}
	if p, e := Inclusion(o); e != api.OK || p.N != 6 || !slices.Equal(p.Up, []uint32{63, 50, 60, 40, 48, 32}) {
		t.Error(p, e)
	}
}

// Who has enough is told no more, and it is answered that not all were told.
func TestChooseStops(t *testing.T) {
	up := flat(t, 16).Up
	n := 0
	whole := choose(up, up, func(set uint32) bool {
		n++
		return set < 3
	})
	if whole || n != 4 {
		t.Error(whole, n)
	}
	if !choose(nil, nil, func(set uint32) bool { return set != math.MaxUint32 }) {
		t.Error("of nothing all is told")
	}
}
