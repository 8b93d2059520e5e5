package polar

import (
	"math"
	"slices"
	"testing"

	"watershed/api"
	"watershed/lattice"
	"watershed/order"
)

// conceptsOf says D3's words over all sets of rows; as many as there are.
func conceptsOf(c api.Context) []api.Concept {
	var list []api.Concept
	for rows := uint32(0); rows < 1<<uint(len(c.Rows)); rows++ {
		cols := upOf(c, rows)
		if downOf(c, cols) == rows {
			list = append(list, api.Concept{Rows: rows, Cols: cols})
		}
	}
	return list
}

// refusesConcepts holds Concepts against the error that it must tell, with nothing beside it.
func refusesConcepts(t *testing.T, c api.Context, want api.Errno) {
	t.Helper()
	if l, e := Concepts(c); e != want || len(l) != 0 {
		t.Error("Concepts", c, l, e, want)
	}
}

// D3
func TestConcepts(t *testing.T) {
	few, many := 0, 0
	for _, c := range manyContexts() {
		if len(c.Rows) > 10 {
			continue
		}
		want := conceptsOf(c)
		if len(want) > api.MaxConcepts {
			refusesConcepts(t, c, api.ErrLarge)
			continue
		}
		if l, e := Concepts(c); e != api.OK || !slices.Equal(l, want) {
			t.Fatal(c, l, e, want)
		}
		if len(want) > api.MaxN {
			many++
		} else {
			few++
		}
	}
	if few < 500 || many < 50 {
		t.Error("not all kinds are seen", few, many)
	}
}

// D3: as many as may be are told; one more is too many.
func TestMostConcepts(t *testing.T) {
	for _, c := range []api.Context{allButOne(8), {Rows: append(allButOne(8).Rows, make([]uint32, 8)...), Cols: 8}} {
		l, e := Concepts(c)
		if e != api.OK || len(l) != 256 {
			t.Fatal(c, len(l), e)
		}
		for i, k := range l {
			if k.Cols != upOf(c, k.Rows) || k.Rows != downOf(c, k.Cols) || i > 0 && l[i-1].Rows >= k.Rows {
				t.Error(c, i, k)
			}
		}
	}
	over := withEnds(allButOne(8))
	if n := len(conceptsOf(over)); n != 257 {
		t.Fatal(n)
	}
	for _, c := range []api.Context{over, allButOne(9), allButOne(15), allButOne(16), withEnds(allButOne(15))} {
		refusesConcepts(t, c, api.ErrLarge)
	}
}

// D3: some that are said here one by one; of no rows, or no columns, there is just one.
func TestConceptsByHand(t *testing.T) {
	for _, x := range []struct {
		c    api.Context
		want []api.Concept
	}{
		{api.Context{}, []api.Concept{{}}},
		{api.Context{Cols: 16}, []api.Concept{{Cols: 1<<16 - 1}}},
		{bare(16, 0), []api.Concept{{Rows: 1<<16 - 1}}},
		{full(16, 16), []api.Concept{{Rows: 1<<16 - 1, Cols: 1<<16 - 1}}},
		{bare(16, 16), []api.Concept{{Cols: 1<<16 - 1}, {Rows: 1<<16 - 1}}},
		{api.Context{Rows: []uint32{3, 1}, Cols: 2}, []api.Concept{{Rows: 1, Cols: 3}, {Rows: 3, Cols: 1}}},
		{
			api.Context{Rows: []uint32{0b0111, 0b1001, 0b1100}, Cols: 4},
			[]api.Concept{{Rows: 0, Cols: 15}, {Rows: 1, Cols: 7}, {Rows: 2, Cols: 9}, {Rows: 3, Cols: 1}, {Rows: 4, Cols: 12},
				{Rows: 5, Cols: 4}, {Rows: 6, Cols: 8}, {Rows: 7, Cols: 0}},
		},
		// Two rows that are alike are in no concept one without the other.
		{api.Context{Rows: []uint32{1, 2, 1}, Cols: 2}, []api.Concept{{Cols: 3}, {Rows: 2, Cols: 2}, {Rows: 5, Cols: 1}, {Rows: 7}}},
	} {
		if l, e := Concepts(x.c); e != api.OK || !slices.Equal(l, x.want) {
			t.Error(x.c, l, e, x.want)
		}
	}
}

func isBelow(o api.Order, i, j int) bool {
	return isIn(o.Up[i], j)
}

// contextOf says D4's words of the context of an order.
func contextOf(o api.Order) api.Context {
	c := bare(o.N, o.N)
	for i := range o.N {
		for j := range o.N {
			if isBelow(o, i, j) {
				c.Rows[i] |= 1 << uint(j)
			}
		}
	}
	return c
}

// refusesComplete holds Complete against the error that it must tell, with nothing beside it.
func refusesComplete(t *testing.T, o api.Order, want api.Errno) {
	t.Helper()
	if p, at, e := Complete(o); e != want || p.N != 0 || len(p.Up) != 0 || len(at) != 0 {
		t.Error("Complete", o, p, at, e, want)
	}
}

// completes holds Complete against D4's words, list being the concepts.
func completes(t *testing.T, o api.Order, list []api.Concept) {
	t.Helper()
	p, at, e := Complete(o)
	if e != api.OK || p.N != len(list) || len(p.Up) != p.N || len(at) != o.N || order.Check(p) != api.OK {
		t.Fatal(o, p, at, e)
	}
	for a := range list {
		for b := range list {
			within := true
			for i := range o.N {
				within = within && (!isIn(list[a].Rows, i) || isIn(list[b].Rows, i))
			}
			if isBelow(p, a, b) != within {
				t.Fatal(o, p, a, b)
			}
		}
	}
	for x := range o.N {
		below := uint32(0)
		for y := range o.N {
			if isBelow(o, y, x) {
				below |= 1 << uint(y)
			}
		}
		if at[x] < 0 || at[x] >= p.N || list[at[x]].Rows != below {
			t.Fatal(o, p, at, x)
		}
	}
}

// D4
func TestComplete(t *testing.T) {
	few, many := 0, 0
	for _, o := range manyOrders(t) {
		list := conceptsOf(contextOf(o))
		if len(list) > api.MaxN {
			many++
			refusesComplete(t, o, api.ErrLarge)
			continue
		}
		few++
		completes(t, o, list)
	}
	if few < 300 || many < 10 {
		t.Error("not all kinds are seen", few, many)
	}
}

// D4: what is told is a lattice, in which the elements lie to one another as they did; of a lattice it has no more elements.
func TestCompleteIsLattice(t *testing.T) {
	for _, o := range manyOrders(t) {
		p, at, e := Complete(o)
		if e == api.ErrLarge {
			continue
		}
		if _, e := lattice.Make(p); e != api.OK {
			t.Fatal(o, p, e)
		}
		for x := range o.N {
			for y := range o.N {
				if isBelow(o, x, y) != isBelow(p, at[x], at[y]) {
					t.Fatal(o, p, at, x, y)
				}
			}
		}
		if _, e := lattice.Make(o); e == api.OK && p.N != o.N {
			t.Fatal(o, p)
		}
	}
}

// D4: as many as an order may have are told; one more is too many.
func TestMostCompleted(t *testing.T) {
	for _, o := range []api.Order{flat(t, 14), line(t, 16), dual(t, line(t, 16)), crown(t, 4), dual(t, crown(t, 4))} {
		p, at, e := Complete(o)
		if e != api.OK || p.N != 16 || len(p.Up) != 16 || p.Up[0] != 1<<16-1 || p.Up[15] != 1<<15 || len(at) != o.N {
			t.Error(o, p, at, e)
		}
	}
	for _, o := range []api.Order{flat(t, 15), flat(t, 16), crown(t, 5), crown(t, 6), crown(t, 7), crown(t, 8), dual(t, crown(t, 8))} {
		refusesComplete(t, o, api.ErrLarge)
	}
}

// D4: the chapter's example, and some others that are said here one by one.
func TestCompleteByHand(t *testing.T) {
	for _, x := range []struct {
		o  api.Order
		up []uint32
		at []int
	}{
		{api.Order{}, []uint32{1}, nil},
		{api.Order{Up: []uint32{}}, []uint32{1}, nil},
		{line(t, 1), []uint32{1}, []int{0}},
		{flat(t, 2), []uint32{15, 10, 12, 8}, []int{1, 2}},
		{line(t, 3), []uint32{7, 6, 4}, []int{0, 1, 2}},
		{dual(t, line(t, 3)), []uint32{7, 6, 4}, []int{2, 1, 0}},
		{flat(t, 3), []uint32{31, 18, 20, 24, 16}, []int{1, 2, 3}},
		// 0 below 1 and 2: their Rows are 1, 3 and 5, and 7 is above all.
		{made(t, 3, []api.Pair{{A: 0, B: 1}, {A: 0, B: 2}}), []uint32{15, 10, 12, 8}, []int{0, 1, 2}},
		// 0 and 1 below 2: nothing is below all of them, so 0 is new.
		{made(t, 3, []api.Pair{{A: 0, B: 2}, {A: 1, B: 2}}), []uint32{15, 10, 12, 8}, []int{1, 2, 3}},
		// 0 and 1 each below 2 and 3: one is new between them, one below all, one above all.
		{
			made(t, 4, []api.Pair{{A: 0, B: 2}, {A: 0, B: 3}, {A: 1, B: 2}, {A: 1, B: 3}}),
			[]uint32{127, 122, 124, 120, 80, 96, 64}, []int{1, 2, 4, 5},
		},
	} {
		p, at, e := Complete(x.o)
		if e != api.OK || p.N != len(x.up) || !slices.Equal(p.Up, x.up) || !slices.Equal(at, x.at) {
			t.Error(x.o, p, at, e, x.up, x.at)
		}
	}
}

// A1, P2: Check's error of the order is told, and nothing else.
func TestWrongOrders(t *testing.T) {
	for want, list := range map[api.Errno][]api.Order{
		api.ErrLarge: {{N: -1}, {N: 17, Up: make([]uint32, 17)}, {N: math.MaxInt}, {N: math.MinInt, Up: []uint32{1}}},
		api.ErrArg: {
			{N: 1}, {N: 0, Up: []uint32{0}}, {N: 2, Up: []uint32{1, 2, 4}}, {N: 1, Up: []uint32{math.MaxUint32}},
			{N: 16, Up: make([]uint32, 15)}, {N: 2, Up: []uint32{0, 4}}, {N: 1, Up: make([]uint32, 17)},
		},
		api.ErrForm: {
			{N: 1, Up: []uint32{0}}, {N: 2, Up: []uint32{3, 3}}, {N: 3, Up: []uint32{3, 6, 4}}, {N: 16, Up: make([]uint32, 16)},
			// These words have 512 concepts, but they are no order's.
			{N: 9, Up: allButOne(9).Rows},
		},
	} {
		for _, o := range list {
			refusesComplete(t, o, want)
		}
	}
}
