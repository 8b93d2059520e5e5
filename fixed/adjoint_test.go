package fixed

import (
	"math"
	"slices"
	"testing"

	"watershed/api"
)

// joinOf: B1's words.
func joinOf(o api.Order, a, b int) int {
	for j := range o.N {
		least := isBelow(o, a, j) && isBelow(o, b, j)
		for k := range o.N {
			if isBelow(o, a, k) && isBelow(o, b, k) && !isBelow(o, j, k) {
				least = false
			}
		}
		if least {
			return j
		}
	}
	return -1
}

// joinsOf are all joins; those of a and b at the place a * N + b.
func joinsOf(o api.Order) []int {
	var list []int
	for a := range o.N {
		for b := range o.N {
			list = append(list, joinOf(o, a, b))
		}
	}
	return list
}

func bottomOf(o api.Order) int {
	return slices.Index(o.Up, 1<<uint(o.N)-1)
}

// hasAdjoint: E4's words of what there must be; j and k are the joins of o and p.
func hasAdjoint(o, p api.Order, f, j, k []int) bool {
	if f[bottomOf(o)] != bottomOf(p) {
		return false
	}
	for a := range o.N {
		for b := range o.N {
			if f[j[a*o.N+b]] != k[f[a]*p.N+f[b]] {
				return false
			}
		}
	}
	return true
}

// adjoins tells if g is as E4 says.
func adjoins(o, p api.Order, f, g []int) bool {
	if len(g) != p.N {
		return false
	}
	for y, x := range g {
		if x < 0 || x >= o.N || !isBelow(p, f[x], y) {
			return false
		}
		for z := range o.N {
			if isBelow(p, f[z], y) && !isBelow(o, z, x) {
				return false
			}
		}
	}
	return true
}

func refusesAdjoint(t *testing.T, o, p api.Order, f []int, want api.Errno) {
	t.Helper()
	if g, e := Adjoint(o, p, f); e != want || len(g) != 0 {
		t.Error("Adjoint", o, p, f, g, e, want)
	}
}

// E4: all maps between small lattices.
func TestAdjointSmall(t *testing.T) {
	list := smallLattices()
	joins := make([][]int, len(list))
	for i, o := range list {
		joins[i] = joinsOf(o)
	}
	kept, broken := 0, 0
	for i, o := range list {
		for k, p := range list {
			for _, f := range allMaps(o.N, p.N) {
				if !hasAdjoint(o, p, f, joins[i], joins[k]) {
					broken++
					refusesAdjoint(t, o, p, f, api.ErrNone)
					continue
				}
				kept++
				if g, e := Adjoint(o, p, f); e != api.OK || !adjoins(o, p, f, g) {
					t.Fatal(o, p, f, g, e)
				}
			}
		}
	}
	if kept < 5000 || broken < 5000 {
		t.Error("not all kinds are seen", kept, broken)
	}
}

// spread is a map from o to p: for those of o that cover just one other, elements of p are drawn, and each element becomes the
// join of what is drawn for those below it. It keeps Bottom, and all joins where o is distributive; elsewhere not always.
func spread(o, p api.Order, k []int, d *draws) []int {
	drawn := make([]int, o.N)
	for x := range drawn {
		if drawn[x] = bottomOf(p); covered(o, x) == 1 {
			drawn[x] = d.to(p.N)
		}
	}
	f := make([]int, o.N)
	for x := range f {
		f[x] = bottomOf(p)
		for z := range o.N {
			if isBelow(o, z, x) {
				f[x] = k[f[x]*p.N+drawn[z]]
			}
		}
	}
	return f
}

// covered is how many elements x covers.
func covered(o api.Order, x int) int {
	strictly := func(a, b int) bool { return a != b && isBelow(o, a, b) }
	n := 0
	for a := range o.N {
		near := strictly(a, x)
		for b := range o.N {
			near = near && !(strictly(a, b) && strictly(b, x))
		}
		if near {
			n++
		}
	}
	return n
}

// E4: maps between great lattices.
func TestAdjointGreat(t *testing.T) {
	d := draws(8)
	list := greatLattices(t)
	kept, broken := 0, 0
	for i, o := range list {
		j := joinsOf(o)
		for _, p := range []api.Order{o, list[d.to(len(list))], list[(i+1)%len(list)], list[d.to(8)]} {
			k := joinsOf(p)
			for range 6 {
				f := spread(o, p, k, &d)
				other := slices.Clone(f)
				other[d.to(o.N)] = d.to(p.N)
				for _, f := range [][]int{f, other} {
					if !hasAdjoint(o, p, f, j, k) {
						broken++
						refusesAdjoint(t, o, p, f, api.ErrNone)
						continue
					}
					kept++
					if g, e := Adjoint(o, p, f); e != api.OK || !adjoins(o, p, f, g) {
						t.Fatal(o, p, f, g, e)
					}
				}
			}
		}
	}
	if kept < 200 || broken < 200 {
		t.Error("not all kinds are seen", kept, broken)
	}
}

// E4: some that are said here one by one.
func TestAdjointByHand(t *testing.T) {
	double := []int{0, 2, 4, 6, 8, 10, 12, 14}
	for _, x := range []struct {
		o, p api.Order
		f, g []int
	}{
		{line(t, 3), line(t, 3), []int{0, 0, 1}, []int{1, 2, 2}},
		{line(t, 1), line(t, 1), []int{0}, []int{0}},
		{line(t, 1), line(t, 16), []int{0}, make([]int, 16)},
		{line(t, 16), line(t, 1), make([]int, 16), []int{15}},
		{line(t, 8), line(t, 16), double, []int{0, 0, 1, 1, 2, 2, 3, 3, 4, 4, 5, 5, 6, 6, 7, 7}},
		// Of o Bottom is 2, of p it is 0.
		{dual(t, line(t, 3)), line(t, 2), []int{1, 1, 0}, []int{2, 0}},
		{line(t, 2), dual(t, line(t, 3)), []int{2, 1}, []int{1, 1, 0}},
		// What a set has of the first thing; of which sets that is no more than y has.
		{subsets(2), subsets(2), []int{0, 1, 0, 1}, []int{2, 3, 2, 3}},
		// All but Bottom become Top: below all others there is just Bottom.
		{subsets(2), subsets(2), []int{0, 3, 3, 3}, []int{0, 0, 0, 3}},
		{between(t, 3), line(t, 2), []int{1, 1, 1, 0, 1}, []int{3, 4}},
		{between(t, 3), between(t, 3), []int{1, 2, 0, 3, 4}, []int{2, 0, 1, 3, 4}},
	} {
		if g, e := Adjoint(x.o, x.p, x.f); e != api.OK || !slices.Equal(g, x.g) {
			t.Error(x.o, x.p, x.f, g, e, x.g)
		}
	}
}

// E4: neither Bottom nor any join may be lost, and what isn't kept below is ErrNone, too.
func TestNoAdjoint(t *testing.T) {
	three, four := line(t, 3), subsets(2)
	for _, x := range []struct {
		o, p api.Order
		f    []int
	}{
		{three, three, []int{1, 1, 2}},
		{three, three, []int{0, 2, 1}},
		{three, three, []int{2, 1, 0}},
		{line(t, 1), line(t, 2), []int{1}},
		// Bottom and what is below what are kept, but the join of 1 and 2 is not.
		{four, four, []int{0, 0, 0, 3}},
		{four, three, []int{0, 1, 1, 2}},
		{between(t, 3), three, []int{1, 1, 2, 0, 2}},
		// Of o Bottom is 2.
		{dual(t, three), three, []int{0, 1, 2}},
	} {
		refusesAdjoint(t, x.o, x.p, x.f, api.ErrNone)
	}
}

// E4: f has just one element of p for each of o.
func TestAdjointWrongMaps(t *testing.T) {
	two, four := line(t, 2), line(t, 4)
	for _, f := range [][]int{nil, {}, {0}, {0, 1, 2}, {0, 4}, {-1, 0}, {4, 0}, {0, math.MaxInt}, {math.MinInt, 1}, {0, 32}, {0, 0, 0, 0}} {
		refusesAdjoint(t, two, four, f, api.ErrArg)
	}
	for _, f := range [][]int{{0, 1}, {0, 1, 2, 3}, {0, 0, 0, 2}, {0, 0, 0, 0, 0}, {1, 1, 1, -1}} {
		refusesAdjoint(t, four, two, f, api.ErrArg)
	}
	if g, e := Adjoint(two, four, []int{0, 3}); e != api.OK || !slices.Equal(g, []int{0, 0, 0, 1}) {
		t.Error(g, e)
	}
	if g, e := Adjoint(four, two, []int{0, 0, 1, 1}); e != api.OK || !slices.Equal(g, []int{1, 3}) {
		t.Error(g, e)
	}
}

// E4, A1, B1: what is wrong with o is told first, also that it is no lattice; then what is wrong with p; then the map.
func TestAdjointWrongOrders(t *testing.T) {
	wrong := wrongOrders()
	wrong[api.ErrNone] = []api.Order{{}, {Up: []uint32{}}, flat(t, 2), flat(t, 16), made(t, 3, []api.Pair{{A: 0, B: 1}, {A: 0, B: 2}}),
		made(t, 3, []api.Pair{{A: 0, B: 2}, {A: 1, B: 2}})}
	good := line(t, 2)
	for want, list := range wrong {
		for _, o := range list {
			for _, f := range [][]int{nil, {0}, {0, 1}, {1, 0}, {-1, 9}, make([]int, 16), make([]int, 17)} {
				refusesAdjoint(t, o, good, f, want)
				refusesAdjoint(t, good, o, f, want)
				for _, others := range wrong {
					for _, p := range others {
						refusesAdjoint(t, o, p, f, want)
					}
				}
			}
		}
	}
}
