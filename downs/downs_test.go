package downs

import (
	"math"
	"slices"
	"testing"

	"watershed/api"
	"watershed/lattice"
	"watershed/order"
)

// setsOf are all sets of the elements of a small order, and some of a great one.
func setsOf(o api.Order) []uint32 {
	var list []uint32
	step := uint32(1)
	if o.N > 8 {
		step = 97
	}
	for set := uint32(0); set < 1<<uint(o.N); set += step {
		list = append(list, set)
	}
	return append(list, 1<<uint(o.N)-1)
}

// those are the elements of o for which is holds, as a set.
func those(o api.Order, is func(i int) bool) uint32 {
	set := uint32(0)
	for i := range o.N {
		if is(i) {
			set |= 1 << uint(i)
		}
	}
	return set
}

// some tells if there is an element of set for which is holds.
func some(o api.Order, set uint32, is func(j int) bool) bool {
	for j := range o.N {
		if isIn(set, j) && is(j) {
			return true
		}
	}
	return false
}

// C1
func TestSets(t *testing.T) {
	for _, o := range manyOrders(t) {
		for _, set := range setsOf(o) {
			under := those(o, func(i int) bool {
				return some(o, set, func(j int) bool { return isBelow(o, i, j) })
			})
			if w, e := Down(o, set); e != api.OK || w != under {
				t.Fatal("Down", o, set, w, e, under)
			}
			high := those(o, func(i int) bool {
				return isIn(set, i) && !some(o, set, func(j int) bool { return isStrictly(o, i, j) })
			})
			if w, e := Maximal(o, set); e != api.OK || w != high {
				t.Fatal("Maximal", o, set, w, e, high)
			}
			low := those(o, func(i int) bool {
				return isIn(set, i) && !some(o, set, func(j int) bool { return isStrictly(o, j, i) })
			})
			if w, e := Minimal(o, set); e != api.OK || w != low {
				t.Fatal("Minimal", o, set, w, e, low)
			}
		}
	}
}

// C1: some that are said here one by one.
func TestSetsByHand(t *testing.T) {
	// 0 below 1 and 2, these below 3, which is below 4; 5 alone.
	o := made(t, 6, []api.Pair{{A: 0, B: 1}, {A: 0, B: 2}, {A: 1, B: 3}, {A: 2, B: 3}, {A: 3, B: 4}})
	for _, c := range []struct {
		set, down, maximal, minimal uint32
	}{
		{0, 0, 0, 0},
		{1 << 0, 1, 1, 1},
		{1 << 3, 1 | 2 | 4 | 8, 8, 8},
		{1 << 5, 32, 32, 32},
		{2 | 4, 1 | 2 | 4, 2 | 4, 2 | 4},
		{1 | 16, 31, 16, 1},
		{63, 63, 16 | 32, 1 | 32},
		{2 | 4 | 8 | 32, 15 | 32, 8 | 32, 2 | 4 | 32},
	} {
		if w, e := Down(o, c.set); e != api.OK || w != c.down {
			t.Error("Down", c, w, e)
		}
		if w, e := Maximal(o, c.set); e != api.OK || w != c.maximal {
			t.Error("Maximal", c, w, e)
		}
		if w, e := Minimal(o, c.set); e != api.OK || w != c.minimal {
			t.Error("Minimal", c, w, e)
		}
	}
}

// refusesSet holds the calls that take a set against the error that they must tell, with nothing beside it.
func refusesSet(t *testing.T, o api.Order, set uint32, want api.Errno) {
	t.Helper()
	if w, e := Down(o, set); e != want || w != 0 {
		t.Error("Down", o, set, w, e, want)
	}
	if w, e := Maximal(o, set); e != want || w != 0 {
		t.Error("Maximal", o, set, w, e, want)
	}
	if w, e := Minimal(o, set); e != want || w != 0 {
		t.Error("Minimal", o, set, w, e, want)
	}
}

// C1: each bit at N or further up is one too many, alone and with others.
func TestSetsWrong(t *testing.T) {
	for _, o := range []api.Order{{}, lines(t, 1), flat(t, 2), lines(t, 15), flat(t, 16), lines(t, 16)} {
		for b := o.N; b < 32; b++ {
			refusesSet(t, o, 1<<uint(b), api.ErrArg)
			refusesSet(t, o, 1<<uint(b)|(1<<uint(o.N)-1), api.ErrArg)
		}
		refusesSet(t, o, math.MaxUint32, api.ErrArg)
	}
}

// wrong are orders that are none, and what Check tells of them; several have more than one thing wrong.
func wrong(t *testing.T) map[api.Errno][]api.Order {
	far := flat(t, 16)
	far.Up[0] |= 1 << 31
	apart := lines(t, 16)
	apart.Up[0] &^= 1 << 9
	return map[api.Errno][]api.Order{
		api.ErrLarge: {{N: -1}, {N: 17, Up: make([]uint32, 17)}, {N: math.MaxInt}, {N: math.MinInt, Up: []uint32{1}}},
		api.ErrArg: {
			{N: 1}, {N: 0, Up: []uint32{0}}, {N: 2, Up: []uint32{1, 2, 4}}, {N: 1, Up: []uint32{math.MaxUint32}},
			{N: 16, Up: make([]uint32, 15)}, {N: 2, Up: []uint32{0, 4}}, far,
		},
		api.ErrForm: {
			{N: 1, Up: []uint32{0}}, {N: 2, Up: []uint32{3, 3}}, {N: 3, Up: []uint32{3, 6, 4}}, {N: 16, Up: make([]uint32, 16)}, apart,
		},
	}
}

// A1, P2: each call tells Check's error ahead of its own ones, and nothing else.
func TestWrongOrders(t *testing.T) {
	for want, list := range wrong(t) {
		for _, o := range list {
			for _, set := range []uint32{0, 1, 1 << 31, math.MaxUint32} {
				refusesSet(t, o, set, want)
			}
			refusesAll(t, o, want)
			refusesCount(t, o, want)
			refusesInclusion(t, o, want)
			if l, e := Birkhoff(o); e != want || len(l) != 0 {
				t.Error("Birkhoff", o, l, e, want)
			}
		}
	}
}

// latticesOf are those of some orders that are lattices, by lattice's word.
func latticesOf(list []api.Order) []api.Order {
	return slices.DeleteFunc(slices.Clone(list), func(o api.Order) bool {
		_, e := lattice.Make(o)
		return e != api.OK
	})
}

// lattices are small ones, those of down-sets, fans (0 below, the last one above all others), the edges, and two that are not
// distributive.
func lattices(t *testing.T) []api.Order {
	t.Helper()
	list := latticesOf(append(smallOrders(), mixed(t)...))
	for _, o := range manyOrders(t) {
		if p, e := Inclusion(o); e == api.OK {
			list = append(list, p, dual(t, p))
		}
	}
	pentagon := api.Order{N: 5, Up: []uint32{31, 22, 20, 24, 16}}
	list = append(list, pentagon, lines(t, 16), dual(t, lines(t, 16)))
	for n := 3; n <= 16; n++ {
		fan := api.Order{N: n, Up: make([]uint32, n)}
		for i := range n {
			fan.Up[i] = 1<<uint(i) | 1<<uint(n-1)
		}
		fan.Up[0] = 1<<uint(n) - 1
		list = append(list, fan)
	}
	return list
}

// covered tells how many others b covers, by A3's words.
func covered(o api.Order, b int) int {
	n := 0
	for a := range o.N {
		between := some(o, 1<<uint(o.N)-1, func(c int) bool { return isStrictly(o, a, c) && isStrictly(o, c, b) })
		if isStrictly(o, a, b) && !between {
			n++
		}
	}
	return n
}

// C4
func TestBirkhoff(t *testing.T) {
	for _, o := range lattices(t) {
		l, e := Birkhoff(o)
		if e != api.OK || len(l) != o.N {
			t.Fatal(o, l, e)
		}
		for i := range o.N {
			want := those(o, func(j int) bool { return isBelow(o, j, i) && covered(o, j) == 1 })
			if l[i] != want {
				t.Fatal(o, i, l, want)
			}
		}
	}
	for _, c := range []struct {
		o    api.Order
		want []uint32
	}{
		{lines(t, 1), []uint32{0}},
		{lines(t, 3), []uint32{0, 2, 6}},
		{dual(t, lines(t, 3)), []uint32{3, 2, 0}},
		// M3: 1, 2 and 3 cover 0 alone, 4 covers three.
		{api.Order{N: 5, Up: []uint32{31, 18, 20, 24, 16}}, []uint32{0, 2, 4, 8, 14}},
		// Subsets of two things: the top covers two.
		{api.Order{N: 4, Up: []uint32{15, 10, 12, 8}}, []uint32{0, 2, 4, 6}},
	} {
		if l, e := Birkhoff(c.o); e != api.OK || !slices.Equal(l, c.want) {
			t.Error(c.o, l, e, c.want)
		}
	}
}

// C4: of the order of down-sets there are just as many sets, all unlike, within each other just as the down-sets are.
func TestBirkhoffOfInclusion(t *testing.T) {
	for _, o := range smallOrders() {
		p, e := Inclusion(o)
		if e != api.OK {
			t.Fatal(o, e)
		}
		l, e := Birkhoff(p)
		if e != api.OK || len(l) != p.N {
			t.Fatal(o, p, l, e)
		}
		for i, a := range l {
			for j, b := range l {
				if (a&^b == 0) != isBelow(p, i, j) {
					t.Fatal(o, p, l, i, j)
				}
			}
		}
	}
}

// C4, B1: what is no lattice is told as that.
func TestBirkhoffNone(t *testing.T) {
	list := []api.Order{{}, {Up: []uint32{}}, flat(t, 2), flat(t, 16), lines(t, 8, 8), rooted(t, flat(t, 15)), dual(t, rooted(t, flat(t, 15)))}
	// 0 below all, 5 above all: 3 and 4 both are above 1 and 2, and neither is below the other one.
	list = append(list, api.Order{N: 6, Up: []uint32{63, 58, 60, 40, 48, 32}})
	for _, o := range list {
		if e := order.Check(o); e != api.OK {
			t.Fatal(o, e)
		}
		if l, e := Birkhoff(o); e != api.ErrNone || len(l) != 0 {
			t.Error(o, l, e)
		}
	}
}
