package polar

import (
	"math"
	"testing"

	"watershed/api"
)

// upOf says D1's words of Up, word by word.
func upOf(c api.Context, rows uint32) uint32 {
	set := uint32(0)
	for j := range c.Cols {
		every := true
		for i := range c.Rows {
			every = every && (!isIn(rows, i) || hasColumn(c, i, j))
		}
		if every {
			set |= 1 << uint(j)
		}
	}
	return set
}

// hasAll tells if a row has all of some columns.
func hasAll(c api.Context, row int, cols uint32) bool {
	for j := range c.Cols {
		if isIn(cols, j) && !hasColumn(c, row, j) {
			return false
		}
	}
	return true
}

// downOf says D1's words of Down, word by word.
func downOf(c api.Context, cols uint32) uint32 {
	set := uint32(0)
	for i := range c.Rows {
		if hasAll(c, i, cols) {
			set |= 1 << uint(i)
		}
	}
	return set
}

// impliesOf says D2's words, word by word.
func impliesOf(c api.Context, a, b uint32) bool {
	for i := range c.Rows {
		if hasAll(c, i, a) && !hasAll(c, i, b) {
			return false
		}
	}
	return true
}

// D1
func TestUpDown(t *testing.T) {
	for _, c := range manyContexts() {
		for _, rows := range setsOf(len(c.Rows)) {
			if w, e := Up(c, rows); e != api.OK || w != upOf(c, rows) {
				t.Fatal("Up", c, rows, w, e, upOf(c, rows))
			}
		}
		for _, cols := range setsOf(c.Cols) {
			if w, e := Down(c, cols); e != api.OK || w != downOf(c, cols) {
				t.Fatal("Down", c, cols, w, e, downOf(c, cols))
			}
		}
	}
}

// D2
func TestImplies(t *testing.T) {
	yes, no := 0, 0
	for _, c := range manyContexts() {
		for _, a := range setsOf(c.Cols) {
			for _, b := range setsOf(c.Cols) {
				want := impliesOf(c, a, b)
				if is, e := Implies(c, a, b); e != api.OK || is != want {
					t.Fatal(c, a, b, is, e, want)
				}
				if want {
					yes++
				} else {
					no++
				}
			}
		}
	}
	if yes < 1000 || no < 1000 {
		t.Error("not both are seen", yes, no)
	}
}

// D1, D2: some that are said here one by one.
func TestByHand(t *testing.T) {
	// Columns: 0 swims, 1 flies, 2 has legs, 3 sings no song. Rows: 0 duck, 1 fish, 2 ant.
	c := api.Context{Rows: []uint32{0b0111, 0b1001, 0b1100}, Cols: 4}
	for rows, want := range map[uint32]uint32{0: 15, 1: 7, 2: 9, 4: 12, 3: 1, 5: 4, 6: 8, 7: 0} {
		if w, e := Up(c, rows); e != api.OK || w != want {
			t.Error("Up", rows, w, e, want)
		}
	}
	for cols, want := range map[uint32]uint32{0: 7, 1: 3, 2: 1, 4: 5, 8: 6, 9: 2, 10: 0, 12: 4, 15: 0} {
		if w, e := Down(c, cols); e != api.OK || w != want {
			t.Error("Down", cols, w, e, want)
		}
	}
	for _, x := range []struct {
		a, b uint32
		is   bool
	}{
		{2, 5, true}, // what flies swims and has legs
		{5, 2, true}, // what swims and has legs flies
		{1, 2, false},
		{2, 0, true},
		{0, 0, true},
		{0, 1, false},
		{10, 15, true}, // no row has both
		{15, 15, true},
	} {
		if is, e := Implies(c, x.a, x.b); e != api.OK || is != x.is {
			t.Error("Implies", x, is, e)
		}
	}
}

// D1, D2: of no rows all columns, also where there are no rows; of no columns all rows, also where there are no columns.
func TestOfNothing(t *testing.T) {
	for n := range api.MaxN + 1 {
		every := uint32(1)<<uint(n) - 1
		for _, c := range []api.Context{{Cols: n}, bare(16, n), full(16, n), full(1, n)} {
			if w, e := Up(c, 0); e != api.OK || w != every {
				t.Error("Up", c, w, e)
			}
		}
		for _, c := range []api.Context{bare(n, 0), bare(n, 16), full(n, 16), full(n, 1)} {
			if w, e := Down(c, 0); e != api.OK || w != every {
				t.Error("Down", c, w, e)
			}
		}
		if is, e := Implies(api.Context{Cols: n}, 0, every); e != api.OK || !is {
			t.Error("Implies", n, is, e)
		}
	}
}

func refusesUp(t *testing.T, c api.Context, rows uint32, want api.Errno) {
	t.Helper()
	if w, e := Up(c, rows); e != want || w != 0 {
		t.Error("Up", c, rows, w, e, want)
	}
}

func refusesDown(t *testing.T, c api.Context, cols uint32, want api.Errno) {
	t.Helper()
	if w, e := Down(c, cols); e != want || w != 0 {
		t.Error("Down", c, cols, w, e, want)
	}
}

func refusesImplies(t *testing.T, c api.Context, a, b uint32, want api.Errno) {
	t.Helper()
	if is, e := Implies(c, a, b); e != want || is {
		t.Error("Implies", c, a, b, is, e, want)
	}
}

// D1, D2: each bit that is no row, or no column, is one too many, alone and with others.
func TestSetsWrong(t *testing.T) {
	for _, c := range []api.Context{{}, full(1, 2), full(2, 1), full(3, 16), bare(16, 3), allButOne(16), full(16, 0), full(0, 16)} {
		for b := len(c.Rows); b < 32; b++ {
			refusesUp(t, c, 1<<uint(b), api.ErrArg)
			refusesUp(t, c, 1<<uint(b)|(1<<uint(len(c.Rows))-1), api.ErrArg)
		}
		for b := c.Cols; b < 32; b++ {
			for _, set := range []uint32{1 << uint(b), 1<<uint(b) | (1<<uint(c.Cols) - 1)} {
				refusesDown(t, c, set, api.ErrArg)
				refusesImplies(t, c, set, 0, api.ErrArg)
				refusesImplies(t, c, 0, set, api.ErrArg)
				refusesImplies(t, c, set, set, api.ErrArg)
			}
		}
		refusesUp(t, c, math.MaxUint32, api.ErrArg)
		refusesDown(t, c, math.MaxUint32, api.ErrArg)
		refusesImplies(t, c, math.MaxUint32, math.MaxUint32, api.ErrArg)
	}
}

// wrong are contexts that are none, and what is told of them; several have more than one thing wrong.
func wrong() map[api.Errno][]api.Context {
	far := full(16, 16)
	far.Rows[15] |= 1 << 31
	return map[api.Errno][]api.Context{
		api.ErrLarge: {
			{Rows: make([]uint32, 17)}, {Rows: make([]uint32, 17), Cols: 16}, {Rows: make([]uint32, 1000), Cols: -1},
			{Cols: -1}, {Cols: 17}, {Cols: 31}, {Cols: 32}, {Cols: 33}, {Cols: 64}, {Cols: math.MaxInt}, {Cols: math.MinInt},
			{Rows: []uint32{1 << 16}, Cols: 17}, {Rows: []uint32{math.MaxUint32}, Cols: -1}, full(17, 1),
			{Rows: append(make([]uint32, 16), math.MaxUint32), Cols: 2},
		},
		api.ErrArg: {
			{Rows: []uint32{1}}, {Rows: []uint32{0, 2}, Cols: 1}, {Rows: []uint32{8, 0}, Cols: 3}, {Rows: []uint32{1 << 16}, Cols: 16},
			{Rows: []uint32{math.MaxUint32}, Cols: 15}, far,
		},
	}
}

// D1 to D3, P2: each call tells what is wrong with a context, ahead of what is wrong with a set, and nothing else.
func TestWrongContexts(t *testing.T) {
	for want, list := range wrong() {
		for _, c := range list {
			for _, set := range []uint32{0, 1, 1 << 31, math.MaxUint32} {
				refusesUp(t, c, set, want)
				refusesDown(t, c, set, want)
				refusesImplies(t, c, set, 0, want)
				refusesImplies(t, c, 0, set, want)
			}
			refusesConcepts(t, c, want)
		}
	}
}
