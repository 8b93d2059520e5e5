package fixed

import (
	"math"
	"slices"
	"testing"

	"watershed/api"
)

// keeps: E1's words.
func keeps(o api.Order, f []int) bool {
	for a := range o.N {
		for b := range o.N {
			if isBelow(o, a, b) && !isBelow(o, f[a], f[b]) {
				return false
			}
		}
	}
	return true
}

// refuses holds the calls of one order against the error of the map that they must tell, with nothing beside it.
func refuses(t *testing.T, o api.Order, f []int, want api.Errno) {
	t.Helper()
	if e := Check(o, f); e != want {
		t.Error("Check", o, f, e, want)
	}
	if l, e := All(o, f); e != want || len(l) != 0 {
		t.Error("All", o, f, l, e, want)
	}
	if isLattice(o) {
		refusesEnds(t, o, f, want)
	}
}

// refusesEnds holds Least and Greatest against the error that they must tell, with nothing beside it.
func refusesEnds(t *testing.T, o api.Order, f []int, want api.Errno) {
	t.Helper()
	if x, n, e := Least(o, f); e != want || x != 0 || n != 0 {
		t.Error("Least", o, f, x, n, e, want)
	}
	if x, n, e := Greatest(o, f); e != want || x != 0 || n != 0 {
		t.Error("Greatest", o, f, x, n, e, want)
	}
}

// E1, E2
func TestCheckAndAll(t *testing.T) {
	d := draws(1)
	kept, broken := 0, 0
	for _, o := range manyOrders(t) {
		for _, f := range mapsOf(t, o, &d) {
			if !keeps(o, f) {
				broken++
				refuses(t, o, f, api.ErrForm)
				continue
			}
			kept++
			var want []int
			for x := range o.N {
				if f[x] == x {
					want = append(want, x)
				}
			}
			if e := Check(o, f); e != api.OK {
				t.Fatal(o, f, e)
			}
			if l, e := All(o, f); e != api.OK || !slices.Equal(l, want) {
				t.Fatal(o, f, l, e, want)
			}
		}
	}
	if kept < 5000 || broken < 5000 {
		t.Error("not all kinds are seen", kept, broken)
	}
}

// endsOf: E3's words, from the element that is below all, or above all.
func endsOf(o api.Order, f []int, first func(x, y int) bool) (int, int) {
	x := 0
	for y := range o.N {
		if first(y, x) {
			x = y
		}
	}
	n := 0
	for f[x] != x {
		x = f[x]
		n++
	}
	return x, n
}

// E3
func TestEnds(t *testing.T) {
	d := draws(2)
	seen, long := 0, 0
	for _, o := range append(smallLattices(), greatLattices(t)...) {
		for _, f := range mapsOf(t, o, &d) {
			if !keeps(o, f) {
				refusesEnds(t, o, f, api.ErrForm)
				continue
			}
			least, up := endsOf(o, f, func(x, y int) bool { return isBelow(o, x, y) })
			if x, n, e := Least(o, f); e != api.OK || x != least || n != up {
				t.Fatal(o, f, x, n, e, least, up)
			}
			greatest, down := endsOf(o, f, func(x, y int) bool { return isBelow(o, y, x) })
			if x, n, e := Greatest(o, f); e != api.OK || x != greatest || n != down {
				t.Fatal(o, f, x, n, e, greatest, down)
			}
			l, e := All(o, f)
			for _, x := range l {
				if !isBelow(o, least, x) || !isBelow(o, x, greatest) {
					t.Fatal(o, f, l, e, least, greatest)
				}
			}
			if seen++; up > 1 || down > 1 {
				long++
			}
		}
	}
	if seen < 1500 || long < 200 {
		t.Error("not all kinds are seen", seen, long)
	}
}

// E2, E3: the chapter's example, and some others that are said here one by one.
func TestByHand(t *testing.T) {
	step := []int{1, 2, 3, 4, 5, 6, 7, 8, 9, 10, 11, 12, 13, 14, 15, 15}
	back := []int{0, 0, 1, 2, 3, 4, 5, 6, 7, 8, 9, 10, 11, 12, 13, 14}
	for _, x := range []struct {
		o             api.Order
		f             []int
		all           []int
		least, up     int
		greatest, low int
	}{
		{line(t, 3), []int{1, 1, 2}, []int{1, 2}, 1, 1, 2, 0},
		{line(t, 3), []int{0, 1, 2}, []int{0, 1, 2}, 0, 0, 2, 0},
		{line(t, 3), []int{1, 1, 1}, []int{1}, 1, 1, 1, 1},
		{line(t, 1), []int{0}, []int{0}, 0, 0, 0, 0},
		{line(t, 16), step, []int{15}, 15, 15, 15, 0},
		{line(t, 16), back, []int{0}, 0, 0, 0, 15},
		// Upside down Bottom is 15 and Top is 0.
		{dual(t, line(t, 16)), step, []int{15}, 15, 0, 15, 15},
		// Two that become each other are no fixed points, and neither end comes to them.
		{subsets(2), []int{0, 2, 1, 3}, []int{0, 3}, 0, 0, 3, 0},
		{between(t, 3), []int{1, 2, 0, 3, 4}, []int{3, 4}, 3, 0, 4, 0},
		// With what a set has comes the first thing, with the first the second, with the second the third.
		{subsets(4), []int{1, 3, 7, 7, 5, 7, 7, 7, 9, 11, 15, 15, 13, 15, 15, 15}, []int{7, 15}, 7, 3, 15, 0},
	} {
		if l, e := All(x.o, x.f); e != api.OK || !slices.Equal(l, x.all) {
			t.Error(x.o, x.f, l, e, x.all)
		}
		if y, n, e := Least(x.o, x.f); e != api.OK || y != x.least || n != x.up {
			t.Error(x.o, x.f, y, n, e, x.least, x.up)
		}
		if y, n, e := Greatest(x.o, x.f); e != api.OK || y != x.greatest || n != x.low {
			t.Error(x.o, x.f, y, n, e, x.greatest, x.low)
		}
	}
}

// E1: numbers that are too few, too many, or no elements; ahead of what is not kept.
func TestWrongMaps(t *testing.T) {
	o := line(t, 3)
	for _, f := range [][]int{nil, {}, {0, 1}, {0, 1, 2, 2}, make([]int, 17), {0, 1, 3}, {-1, 1, 2}, {2, 1, 3}, {2, 1}, {2, 1, 0, 0},
		{0, math.MinInt, 2}, {0, 1, math.MaxInt}, {0, 1 << 32, 2}, {64, 64, 64}, {0, 1, 34}, {-64, -64, -64}} {
		refuses(t, o, f, api.ErrArg)
	}
	for _, f := range [][]int{{1, 0, 2}, {2, 1, 0}, {0, 2, 1}, {1, 1, 0}} {
		refuses(t, o, f, api.ErrForm)
	}
	full := slices.Repeat([]int{15}, 16)
	full[3] = 16
	refuses(t, line(t, 16), full, api.ErrArg)
	refuses(t, flat(t, 2), []int{0, 2}, api.ErrArg)
}

// E1, E2: an order of nothing has just the map of no numbers; it is no lattice.
func TestNothing(t *testing.T) {
	for _, f := range [][]int{nil, {}} {
		if e := Check(api.Order{}, f); e != api.OK {
			t.Error(e)
		}
		if l, e := All(api.Order{}, f); e != api.OK || len(l) != 0 {
			t.Error(l, e)
		}
		refusesEnds(t, api.Order{}, f, api.ErrNone)
	}
	refuses(t, api.Order{}, []int{0}, api.ErrArg)
	refusesEnds(t, api.Order{}, []int{0}, api.ErrNone)
}

// E1, E3: what is no lattice is told ahead of what is wrong with the map.
func TestNoLattice(t *testing.T) {
	none := 0
	for _, o := range manyOrders(t) {
		if isLattice(o) {
			continue
		}
		none++
		same := make([]int, o.N)
		for i := range same {
			same[i] = i
		}
		for _, f := range [][]int{same, nil, make([]int, o.N+1), slices.Repeat([]int{-1}, o.N), slices.Repeat([]int{o.N}, o.N)} {
			refusesEnds(t, o, f, api.ErrNone)
		}
	}
	if none < 100 {
		t.Error("too few", none)
	}
	// 0 below 1 and 2, which have no join; the map turns what is below what.
	v := made(t, 3, []api.Pair{{A: 0, B: 1}, {A: 0, B: 2}})
	refusesEnds(t, v, []int{1, 0, 0}, api.ErrNone)
	if e := Check(v, []int{1, 0, 0}); e != api.ErrForm {
		t.Error(e)
	}
}

// wrongOrders are such by the error that Check of orders tells.
func wrongOrders() map[api.Errno][]api.Order {
	return map[api.Errno][]api.Order{
		api.ErrLarge: {{N: -1}, {N: 17, Up: make([]uint32, 17)}, {N: math.MaxInt}, {N: math.MinInt, Up: []uint32{1}}},
		api.ErrArg: {
			{N: 1}, {N: 0, Up: []uint32{0}}, {N: 2, Up: []uint32{1, 2, 4}}, {N: 1, Up: []uint32{math.MaxUint32}},
			{N: 16, Up: make([]uint32, 15)}, {N: 2, Up: []uint32{0, 4}}, {N: 1, Up: make([]uint32, 17)},
		},
		api.ErrForm: {
			{N: 1, Up: []uint32{0}}, {N: 2, Up: []uint32{3, 3}}, {N: 3, Up: []uint32{3, 6, 4}}, {N: 16, Up: make([]uint32, 16)},
		},
	}
}

// A1, P2: what is wrong with the order is told first, whatever the map is.
func TestWrongOrders(t *testing.T) {
	for want, list := range wrongOrders() {
		for _, o := range list {
			for _, f := range [][]int{nil, {0}, {0, 1}, {1, 0}, {0, 1, 2}, {-1}, make([]int, 16), make([]int, 17)} {
				if e := Check(o, f); e != want {
					t.Error("Check", o, f, e, want)
				}
				if l, e := All(o, f); e != want || len(l) != 0 {
					t.Error("All", o, f, l, e, want)
				}
				refusesEnds(t, o, f, want)
			}
		}
	}
}

// What is done again and again may be of any type.
func TestRepeated(t *testing.T) {
	half := func(x uint8) uint8 { return x / 2 }
	if x, n := repeated(half, 200); x != 0 || n != 8 {
		t.Error(x, n)
	}
	cut := func(s string) string { return s[min(1, len(s)):] }
	if x, n := repeated(cut, "abc"); x != "" || n != 3 {
		t.Error(x, n)
	}
}
