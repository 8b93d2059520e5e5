package fixed

import (
	"slices"
	"testing"

	"watershed/api"
	"watershed/lattice"
	"watershed/order"
	"watershed/polar"
)

func isBelow(o api.Order, i, j int) bool {
	return o.Up[i]>>uint(j)&1 == 1
}

// draws are numbers that say nothing of one another, and the same ones each time.
type draws uint32

func (d *draws) to(n int) int {
	*d = *d*1664525 + 1013904223
	return int(*d>>16) % n
}

// smallOrders are all orders of up to 4 elements.
func smallOrders() []api.Order {
	var list []api.Order
	for n := range 5 {
		for code := range 1 << uint(n*n) {
			o := api.Order{N: n, Up: make([]uint32, n)}
			for i := range n {
				o.Up[i] = uint32(code>>uint(i*n)) & (1<<uint(n) - 1)
			}
			if order.Check(o) == api.OK {
				list = append(list, o)
			}
		}
	}
	return list
}

func made(t *testing.T, n int, pairs []api.Pair) api.Order {
	t.Helper()
	o, e := order.Of(n, pairs)
	if e != api.OK {
		t.Fatal(n, pairs, e)
	}
	return o
}

// mixed are orders of 4 to 16 elements, whose numbers say nothing of what is below what.
func mixed(t *testing.T) []api.Order {
	t.Helper()
	var list []api.Order
	d := draws(11)
	for round := range 260 {
		n := 4 + round%13
		place := make([]int, n)
		for i := range place {
			k := d.to(i + 1)
			place[i], place[k] = place[k], i
		}
		var pairs []api.Pair
		for range d.to(4*n) + 1 {
			a, b := d.to(n), d.to(n)
			pairs = append(pairs, api.Pair{A: place[min(a, b)], B: place[max(a, b)]})
		}
		list = append(list, made(t, n, pairs))
	}
	return list
}

// line has n elements, each below all behind it; flat has nothing strictly below anything.
func line(t *testing.T, n int) api.Order {
	t.Helper()
	var pairs []api.Pair
	for i := 1; i < n; i++ {
		pairs = append(pairs, api.Pair{A: i - 1, B: i})
	}
	return made(t, n, pairs)
}

func flat(t *testing.T, n int) api.Order {
	t.Helper()
	return made(t, n, nil)
}

// dual is o upside down.
func dual(t *testing.T, o api.Order) api.Order {
	t.Helper()
	d, e := order.Dual(o)
	if e != api.OK {
		t.Fatal(o, e)
	}
	return d
}

// turned is o with other numbers: i becomes n - 1 - i.
func turned(o api.Order) api.Order {
	p := api.Order{N: o.N, Up: make([]uint32, o.N)}
	for i := range o.N {
		for j := range o.N {
			if isBelow(o, i, j) {
				p.Up[o.N-1-i] |= 1 << uint(o.N-1-j)
			}
		}
	}
	return p
}

// subsets is the lattice of all sets of n things.
func subsets(n int) api.Order {
	o := api.Order{N: 1 << uint(n), Up: make([]uint32, 1<<uint(n))}
	for a := range o.N {
		for b := range o.N {
			if a&^b == 0 {
				o.Up[a] |= 1 << uint(b)
			}
		}
	}
	return o
}

// between has n elements side by side, one below all of them and one above.
func between(t *testing.T, n int) api.Order {
	t.Helper()
	var pairs []api.Pair
	for i := range n {
		pairs = append(pairs, api.Pair{A: n, B: i}, api.Pair{A: i, B: n + 1})
	}
	return made(t, n+2, pairs)
}

// manyOrders are small ones, great ones and the edges.
func manyOrders(t *testing.T) []api.Order {
	t.Helper()
	list := append(smallOrders(), mixed(t)...)
	return append(list, line(t, 16), dual(t, line(t, 16)), flat(t, 16), subsets(4), between(t, 14))
}

func isLattice(o api.Order) bool {
	_, e := lattice.Make(o)
	return e == api.OK
}

// smallLattices are all lattices of up to 4 elements.
func smallLattices() []api.Order {
	return slices.DeleteFunc(smallOrders(), func(o api.Order) bool { return !isLattice(o) })
}

// greatLattices are lattices of 5 to 16 elements, of many shapes.
func greatLattices(t *testing.T) []api.Order {
	t.Helper()
	five := made(t, 5, []api.Pair{{A: 3, B: 0}, {A: 0, B: 1}, {A: 1, B: 4}, {A: 3, B: 2}, {A: 2, B: 4}})
	list := []api.Order{line(t, 16), dual(t, line(t, 16)), subsets(3), subsets(4), turned(subsets(4)), between(t, 3), between(t, 14), five}
	for _, o := range mixed(t) {
		p, _, e := polar.Complete(o)
		if e != api.OK || p.N < 5 {
			continue
		}
		if len(list)%2 == 0 {
			p = turned(p)
		}
		list = append(list, p)
	}
	for _, o := range list {
		if !isLattice(o) {
			t.Fatal(o)
		}
	}
	if len(list) < 60 {
		t.Fatal("too few", len(list))
	}
	return list
}

// allMaps are all lists of n numbers below m.
func allMaps(n, m int) [][]int {
	list := [][]int{{}}
	for range n {
		var longer [][]int
		for _, f := range list {
			for y := range m {
				longer = append(longer, append(slices.Clone(f), y))
			}
		}
		list = longer
	}
	return list
}

// keeping is a map that keeps what is below what; one that makes all to one element, if the draws come to no other.
func keeping(t *testing.T, o api.Order, d *draws) []int {
	t.Helper()
	sorted, e := order.Sorted(o)
	if e != api.OK {
		t.Fatal(o, e)
	}
	f := make([]int, o.N)
	for k, x := range sorted {
		var may []int
		for y := range o.N {
			fits := func(a int) bool { return !isBelow(o, a, x) || isBelow(o, f[a], y) }
			if !slices.ContainsFunc(sorted[:k], func(a int) bool { return !fits(a) }) {
				may = append(may, y)
			}
		}
		if len(may) == 0 {
			return slices.Repeat([]int{d.to(o.N)}, o.N)
		}
		f[x] = may[d.to(len(may))]
	}
	return f
}

// mapsOf are all maps of small orders and, of great ones, some that keep what is below what, and some that mostly don't.
func mapsOf(t *testing.T, o api.Order, d *draws) [][]int {
	t.Helper()
	if o.N <= 4 {
		return allMaps(o.N, o.N)
	}
	same, drawn := make([]int, o.N), make([]int, o.N)
	for i := range same {
		same[i], drawn[i] = i, d.to(o.N)
	}
	list := [][]int{same, drawn}
	for range 12 {
		f := keeping(t, o, d)
		list = append(list, f)
		other := slices.Clone(f)
		other[d.to(o.N)] = d.to(o.N)
		list = append(list, other)
	}
	return list
}
