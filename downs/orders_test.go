package downs

import (
	"slices"
	"testing"

	"watershed/api"
	"watershed/order"
)

func isBelow(o api.Order, i, j int) bool {
	return o.Up[i]>>uint(j)&1 == 1
}

func isStrictly(o api.Order, i, j int) bool {
	return i != j && isBelow(o, i, j)
}

func isIn(set uint32, i int) bool {
	return set>>uint(i)&1 == 1
}

// smallOrders are all orders of up to 4 elements.
func smallOrders() []api.Order {
	var list []api.Order
	for n := range 5 {
		for code := range 1 << uint(n*n) {
			o := api.Order{N: n, Up: make([]uint32, n)}
			for i := range n {
				o.Up[i] = uint32(code>>uint(i*n)) & (1<<uint(n) - 1)
			}
			if order.Check(o) == api.OK {
				list = append(list, o)
			}
		}
	}
	return list
}

// draws are numbers that say nothing of one another, and the same ones each time.
type draws uint32

func (d *draws) to(n int) int {
	*d = *d*1664525 + 1013904223
	return int(*d>>16) % n
}

// mixed are orders of 5 to 16 elements, whose numbers say nothing of what is below what; some have few down-sets, some many.
func mixed(t *testing.T) []api.Order {
	t.Helper()
	var list []api.Order
	d := draws(5)
	for round := range 240 {
		n := 5 + round%12
		place := make([]int, n)
		for i := range place {
			k := d.to(i + 1)
			place[i], place[k] = place[k], i
		}
		var pairs []api.Pair
		for range d.to(4*n) + 1 {
			a, b := d.to(n), d.to(n)
			pairs = append(pairs, api.Pair{A: place[min(a, b)], B: place[max(a, b)]})
		}
		list = append(list, made(t, n, pairs))
	}
	return list
}

func made(t *testing.T, n int, pairs []api.Pair) api.Order {
	t.Helper()
	o, e := order.Of(n, pairs)
	if e != api.OK {
		t.Fatal(n, pairs, e)
	}
	return o
}

// lines has lines of so many elements each, side by side; lines(n) is one line, flat has nothing strictly below anything.
func lines(t *testing.T, long ...int) api.Order {
	t.Helper()
	var pairs []api.Pair
	n := 0
	for _, l := range long {
		for i := range l {
			if i > 0 {
				pairs = append(pairs, api.Pair{A: n + i - 1, B: n + i})
			}
		}
		n += l
	}
	return made(t, n, pairs)
}

func flat(t *testing.T, n int) api.Order {
	t.Helper()
	return lines(t, slices.Repeat([]int{1}, n)...)
}

// rooted is o with one more element, the last one, below all others: it has one more down-set.
func rooted(t *testing.T, o api.Order) api.Order {
	t.Helper()
	up := append(slices.Clone(o.Up), 1<<uint(o.N+1)-1)
	p := api.Order{N: o.N + 1, Up: up}
	if e := order.Check(p); e != api.OK {
		t.Fatal(p, e)
	}
	return p
}

// dual is o upside down.
func dual(t *testing.T, o api.Order) api.Order {
	t.Helper()
	d, e := order.Dual(o)
	if e != api.OK {
		t.Fatal(o, e)
	}
	return d
}

// manyOrders are small ones, great ones and the edges.
func manyOrders(t *testing.T) []api.Order {
	t.Helper()
	list := append(smallOrders(), mixed(t)...)
	return append(list, lines(t, 1), lines(t, 16), dual(t, lines(t, 16)), flat(t, 8), flat(t, 9), flat(t, 16),
		lines(t, 3, 3, 3, 3), rooted(t, flat(t, 8)), dual(t, rooted(t, flat(t, 8))), flat(t, 4), lines(t, 15), rooted(t, flat(t, 4)))
}
