package polar

import (
	"slices"
	"testing"

	"watershed/api"
	"watershed/order"
)

func isIn(set uint32, i int) bool {
	return set>>uint(i)&1 == 1
}

// hasColumn: D1's word for a context.
func hasColumn(c api.Context, row, col int) bool {
	return isIn(c.Rows[row], col)
}

// draws are numbers that say nothing of one another, and the same ones each time.
type draws uint32

func (d *draws) to(n int) int {
	*d = *d*1664525 + 1013904223
	return int(*d>>16) % n
}

// smallContexts are all contexts of up to 3 rows and 3 columns.
func smallContexts() []api.Context {
	var list []api.Context
	for rows := range 4 {
		for cols := range 4 {
			for code := range 1 << uint(rows*cols) {
				c := api.Context{Rows: make([]uint32, rows), Cols: cols}
				for i := range rows {
					c.Rows[i] = uint32(code>>uint(i*cols)) & (1<<uint(cols) - 1)
				}
				list = append(list, c)
			}
		}
	}
	return list
}

// mixedContexts are contexts of up to 10 rows and 16 columns, some full, some nearly empty.
func mixedContexts() []api.Context {
	var list []api.Context
	d := draws(7)
	for round := range 300 {
		c := api.Context{Rows: make([]uint32, d.to(11)), Cols: d.to(17)}
		for i := range c.Rows {
			for j := range c.Cols {
				if d.to(10) < 1+round%9 {
					c.Rows[i] |= 1 << uint(j)
				}
			}
		}
		list = append(list, c)
	}
	return list
}

// full has all columns in each row.
func full(rows, cols int) api.Context {
	return api.Context{Rows: slices.Repeat([]uint32{1<<uint(cols) - 1}, rows), Cols: cols}
}

// bare has no column in any row.
func bare(rows, cols int) api.Context {
	return api.Context{Rows: make([]uint32, rows), Cols: cols}
}

// allButOne has n rows and columns; each row has all columns but its own, so that each set of rows is that of a concept.
func allButOne(n int) api.Context {
	c := full(n, n)
	for i := range c.Rows {
		c.Rows[i] &^= 1 << uint(i)
	}
	return c
}

// withEnds is c with a row that has all columns of c, and a column that no row has. There is one more concept: the row is in all
// that there were, the column in the new one alone.
func withEnds(c api.Context) api.Context {
	return api.Context{Rows: append(slices.Clone(c.Rows), 1<<uint(c.Cols)-1), Cols: c.Cols + 1}
}

// manyContexts are small ones, great ones and the edges.
func manyContexts() []api.Context {
	list := append(smallContexts(), mixedContexts()...)
	for _, n := range []int{0, 1, 15, 16} {
		list = append(list, full(n, 16), full(n, 0), full(16, n), bare(n, 16), bare(16, n))
	}
	return append(list, api.Context{Rows: []uint32{}}, allButOne(4), allButOne(8), allButOne(9), allButOne(16),
		withEnds(allButOne(8)), withEnds(allButOne(15)))
}

// setsOf are all sets of few things, and some of many.
func setsOf(n int) []uint32 {
	var list []uint32
	step := uint32(1)
	if n > 5 {
		step = 1<<uint(n)/31 | 1
	}
	for set := uint32(0); set < 1<<uint(n); set += step {
		list = append(list, set)
	}
	return append(list, 1<<uint(n)-1)
}

// smallOrders are all orders of up to 4 elements.
func smallOrders() []api.Order {
	var list []api.Order
	for n := range 5 {
		for code := range 1 << uint(n*n) {
			o := api.Order{N: n, Up: make([]uint32, n)}
			for i := range n {
				o.Up[i] = uint32(code>>uint(i*n)) & (1<<uint(n) - 1)
			}
			if order.Check(o) == api.OK {
				list = append(list, o)
			}
		}
	}
	return list
}

func made(t *testing.T, n int, pairs []api.Pair) api.Order {
	t.Helper()
	o, e := order.Of(n, pairs)
	if e != api.OK {
		t.Fatal(n, pairs, e)
	}
	return o
}

// mixedOrders are orders of 5 to 12 elements, whose numbers say nothing of what is below what; in each third one half of the
// elements lie below others of the other half, so that there are many concepts.
func mixedOrders(t *testing.T) []api.Order {
	t.Helper()
	var list []api.Order
	d := draws(3)
	for round := range 160 {
		n := 5 + round%8
		place := make([]int, n)
		for i := range place {
			k := d.to(i + 1)
			place[i], place[k] = place[k], i
		}
		var pairs []api.Pair
		for range d.to(4*n) + 1 {
			a, b := d.to(n), d.to(n)
			if round%3 == 0 {
				a, b = d.to(n/2), n/2+d.to(n-n/2)
			}
			pairs = append(pairs, api.Pair{A: place[min(a, b)], B: place[max(a, b)]})
		}
		list = append(list, made(t, n, pairs))
	}
	return list
}

// line has n elements, each below all behind it; flat has nothing strictly below anything.
func line(t *testing.T, n int) api.Order {
	t.Helper()
	var pairs []api.Pair
	for i := range n {
		if i > 0 {
			pairs = append(pairs, api.Pair{A: i - 1, B: i})
		}
	}
	return made(t, n, pairs)
}

func flat(t *testing.T, n int) api.Order {
	t.Helper()
	return made(t, n, nil)
}

// crown has n elements, and n others: each of the first is below all others but its own one.
func crown(t *testing.T, n int) api.Order {
	t.Helper()
	var pairs []api.Pair
	for i := range n {
		for j := range n {
			if i != j {
				pairs = append(pairs, api.Pair{A: i, B: n + j})
			}
		}
	}
	return made(t, 2*n, pairs)
}

// dual is o upside down.
func dual(t *testing.T, o api.Order) api.Order {
	t.Helper()
	d, e := order.Dual(o)
	if e != api.OK {
		t.Fatal(o, e)
	}
	return d
}

// manyOrders are small ones, great ones and the edges.
func manyOrders(t *testing.T) []api.Order {
	t.Helper()
	list := append(smallOrders(), mixedOrders(t)...)
	return append(list, line(t, 16), dual(t, line(t, 16)), flat(t, 14), flat(t, 15), flat(t, 16),
		crown(t, 3), crown(t, 4), dual(t, crown(t, 4)), crown(t, 5), crown(t, 8))
}
