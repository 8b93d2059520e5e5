package mobius

import (
	"math"
	"testing"

	"watershed/api"
	"watershed/order"
)

func isBelow(o api.Order, i, j int) bool {
	return o.Up[i]>>uint(j)&1 == 1
}

// draws are numbers that say nothing of one another, and the same ones each time.
type draws uint32

func (d *draws) to(n int) int {
	*d = *d*1664525 + 1013904223
	return int(*d>>16) % n
}

// number is small, most of the time, and else as great as 64 bits allow, or nearly so.
func (d *draws) number() int64 {
	switch d.to(8) {
	case 0:
		return math.MaxInt64 - int64(d.to(3))
	case 1:
		return math.MinInt64 + int64(d.to(3))
	case 2:
		return int64(d.to(1<<16))<<47 | int64(d.to(1<<16))<<20 | int64(d.to(1<<16))
	}
	return int64(d.to(9)) - 4
}

func (d *draws) numbers(n int) []int64 {
	list := make([]int64, n)
	for i := range list {
		list[i] = d.number()
	}
	return list
}

// table is one of o, with all kinds of numbers; at a and a they are 1 and -1, if that is asked.
func (d *draws) table(o api.Order, signs bool) []int64 {
	f := make([]int64, o.N*o.N)
	for a := range o.N {
		for b := range o.N {
			switch {
			case a == b && signs:
				f[a*o.N+b] = int64(1 - 2*d.to(2))
			case isBelow(o, a, b):
				f[a*o.N+b] = d.number()
			}
		}
	}
	return f
}

// smallOrders are all orders of up to 4 elements.
func smallOrders() []api.Order {
	var list []api.Order
	for n := range 5 {
		for code := range 1 << uint(n*n) {
			o := api.Order{N: n, Up: make([]uint32, n)}
			for i := range n {
				o.Up[i] = uint32(code>>uint(i*n)) & (1<<uint(n) - 1)
			}
			if order.Check(o) == api.OK {
				list = append(list, o)
			}
		}
	}
	return list
}

func made(t *testing.T, n int, pairs []api.Pair) api.Order {
	t.Helper()
	o, e := order.Of(n, pairs)
	if e != api.OK {
		t.Fatal(n, pairs, e)
	}
	return o
}

// mixed are orders of 4 to 16 elements, whose numbers say nothing of what is below what.
func mixed(t *testing.T) []api.Order {
	t.Helper()
	var list []api.Order
	d := draws(11)
	for round := range 260 {
		n := 4 + round%13
		place := make([]int, n)
		for i := range place {
			k := d.to(i + 1)
			place[i], place[k] = place[k], i
		}
		var pairs []api.Pair
		for range d.to(4*n) + 1 {
			a, b := d.to(n), d.to(n)
			pairs = append(pairs, api.Pair{A: place[min(a, b)], B: place[max(a, b)]})
		}
		list = append(list, made(t, n, pairs))
	}
	return list
}

// line has n elements, each below all behind it; flat has nothing strictly below anything.
func line(t *testing.T, n int) api.Order {
	t.Helper()
	var pairs []api.Pair
	for i := 1; i < n; i++ {
		pairs = append(pairs, api.Pair{A: i - 1, B: i})
	}
	return made(t, n, pairs)
}

func flat(t *testing.T, n int) api.Order {
	t.Helper()
	return made(t, n, nil)
}

// dual is o upside down.
func dual(t *testing.T, o api.Order) api.Order {
	t.Helper()
	d, e := order.Dual(o)
	if e != api.OK {
		t.Fatal(o, e)
	}
	return d
}

// subsets is the order of all sets of n things.
func subsets(n int) api.Order {
	o := api.Order{N: 1 << uint(n), Up: make([]uint32, 1<<uint(n))}
	for a := range o.N {
		for b := range o.N {
			if a&^b == 0 {
				o.Up[a] |= 1 << uint(b)
			}
		}
	}
	return o
}

// between has n elements side by side, one below all of them and one above.
func between(t *testing.T, n int) api.Order {
	t.Helper()
	var pairs []api.Pair
	for i := range n {
		pairs = append(pairs, api.Pair{A: n, B: i}, api.Pair{A: i, B: n + 1})
	}
	return made(t, n+2, pairs)
}

// manyOrders are small ones, great ones and the edges.
func manyOrders(t *testing.T) []api.Order {
	t.Helper()
	list := append(smallOrders(), mixed(t)...)
	return append(list, line(t, 16), dual(t, line(t, 16)), flat(t, 16), subsets(4), dual(t, subsets(4)), between(t, 14))
}

// wrongOrders are orders that Check refuses.
func wrongOrders() []api.Order {
	return []api.Order{
		{N: -1},
		{N: math.MinInt},
		{N: 17, Up: make([]uint32, 17)},
		{N: math.MaxInt},
		{N: 1},
		{N: 0, Up: []uint32{0}},
		{N: 2, Up: []uint32{1, 2, 4}},
		{N: 2, Up: []uint32{1, 6}},
		{N: 1, Up: []uint32{0}},
		{N: 2, Up: []uint32{3, 3}},
		{N: 3, Up: []uint32{3, 6, 4}},
	}
}
