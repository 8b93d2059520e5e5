package order

import (
	"math"
	"slices"
	"testing"

	"watershed/api"
)

// isOrder says A1's words one by one, by the bits alone.
func isOrder(o api.Order) bool {
	for i := range o.N {
		if !isBelow(o, i, i) {
			return false
		}
		for j := range o.N {
			if i != j && isBelow(o, i, j) && isBelow(o, j, i) {
				return false
			}
			for k := range o.N {
				if isBelow(o, i, j) && isBelow(o, j, k) && !isBelow(o, i, k) {
					return false
				}
			}
		}
	}
	return true
}

func isBelow(o api.Order, i, j int) bool {
	return o.Up[i]>>uint(j)&1 == 1
}

func isStrictly(o api.Order, i, j int) bool {
	return i != j && isBelow(o, i, j)
}

// relation spreads the bits of code over n words of n bits.
func relation(n int, code uint32) api.Order {
	o := api.Order{N: n, Up: make([]uint32, n)}
	for i := range n {
		o.Up[i] = code >> uint(i*n) & (1<<uint(n) - 1)
	}
	return o
}

// ordersOf are all orders of n elements; n is at most 4.
func ordersOf(n int) []api.Order {
	var list []api.Order
	for code := uint32(0); code < 1<<uint(n*n); code++ {
		if o := relation(n, code); isOrder(o) {
			list = append(list, o)
		}
	}
	return list
}

// smallOrders are all orders of up to 4 elements.
func smallOrders() []api.Order {
	var list []api.Order
	for n := range 5 {
		list = append(list, ordersOf(n)...)
	}
	return list
}

// subsets is the order of the subsets of 4 things: 16 elements, of which 6 lie side by side.
func subsets() api.Order {
	o := api.Order{N: 16, Up: make([]uint32, 16)}
	for i := range 16 {
		for j := range 16 {
			if i&^j == 0 {
				o.Up[i] |= 1 << uint(j)
			}
		}
	}
	return o
}

// line has element i below all of i and further up; flat has nothing strictly below anything.
func line(n int) api.Order {
	o := flat(n)
	for i := range n {
		o.Up[i] = (1<<uint(n) - 1) &^ (1<<uint(i) - 1)
	}
	return o
}

func flat(n int) api.Order {
	o := api.Order{N: n, Up: make([]uint32, n)}
	for i := range n {
		o.Up[i] = 1 << uint(i)
	}
	return o
}

// mixed are orders of many elements, whose numbers say nothing of what is below what.
func mixed(t *testing.T) []api.Order {
	var list []api.Order
	state := uint32(1)
	draw := func(n int) int {
		state = state*1664525 + 1013904223
		return int(state>>16) % n
	}
	for round := range 400 {
		n := 5 + round%12
		place := make([]int, n)
		for i := range place {
			place[i] = i
			k := draw(i + 1)
			place[i], place[k] = place[k], place[i]
		}
		var pairs []api.Pair
		for range draw(3*n) + 1 {
			a, b := draw(n), draw(n)
			pairs = append(pairs, api.Pair{A: place[min(a, b)], B: place[max(a, b)]})
		}
		o, e := Of(n, pairs)
		if e != api.OK || !isOrder(o) {
			t.Fatal(n, pairs, o, e)
		}
		list = append(list, o)
	}
	return list
}

// manyOrders are small ones, great ones and the edges.
func manyOrders(t *testing.T) []api.Order {
	list := append(smallOrders(), mixed(t)...)
	return append(list, subsets(), line(16), flat(16), line(1), flat(15))
}

func same(a, b api.Order) bool {
	return a.N == b.N && slices.Equal(a.Up, b.Up)
}

// A1: what may be, may be; all else is told as ErrForm.
func TestCheckForm(t *testing.T) {
	for n := range 5 {
		for code := uint32(0); code < 1<<uint(n*n); code++ {
			o := relation(n, code)
			want := api.ErrForm
			if isOrder(o) {
				want = api.OK
			}
			if e := Check(o); e != want {
				t.Fatal(o, e, want)
			}
		}
	}
}

// As many as there are, so that the tests over all orders are known to see all of them.
func TestHowManyOrders(t *testing.T) {
	for n, want := range []int{1, 1, 3, 19, 219} {
		if got := len(ordersOf(n)); got != want {
			t.Error(n, got, want)
		}
	}
}

func TestCheckGreat(t *testing.T) {
	for _, o := range []api.Order{subsets(), line(16), flat(16), {}, {N: 0, Up: []uint32{}}} {
		if e := Check(o); e != api.OK {
			t.Error(o, e)
		}
	}
}

// wrong are orders that are none, and what Check tells of them; several have more than one thing wrong.
func wrong() map[api.Errno][]api.Order {
	over := line(16)
	over.Up[15] |= 1 << 16
	far := flat(16)
	far.Up[0] |= 1 << 31
	apart := line(16)
	apart.Up[0] &^= 1 << 9
	return map[api.Errno][]api.Order{
		api.ErrLarge: {
			{N: -1}, {N: 17}, {N: 17, Up: make([]uint32, 17)}, {N: -1, Up: []uint32{1}}, {N: 17, Up: []uint32{math.MaxUint32}},
			{N: math.MaxInt}, {N: math.MinInt},
		},
		api.ErrArg: {
			{N: 1}, {N: 0, Up: []uint32{0}}, {N: 2, Up: []uint32{1}}, {N: 2, Up: []uint32{1, 2, 4}}, {N: 1, Up: []uint32{3}},
			{N: 2, Up: []uint32{0, 4}}, {N: 2, Up: []uint32{3, 7}}, {N: 16, Up: make([]uint32, 15)}, over, far,
		},
		api.ErrForm: {
			{N: 1, Up: []uint32{0}}, {N: 2, Up: []uint32{3, 3}}, {N: 2, Up: []uint32{1, 1}}, {N: 3, Up: []uint32{3, 6, 4}},
			{N: 16, Up: make([]uint32, 16)}, apart,
		},
	}
}

// A1, P2: each call tells Check's error, and nothing else.
func TestWrongOrders(t *testing.T) {
	for want, list := range wrong() {
		for _, o := range list {
			if e := Check(o); e != want {
				t.Error("Check", o, e, want)
			}
			if d, e := Dual(o); e != want || d.N != 0 || len(d.Up) != 0 {
				t.Error("Dual", o, d, e)
			}
			if l, e := Covers(o); e != want || len(l) != 0 {
				t.Error("Covers", o, l, e)
			}
			if l, e := Sorted(o); e != want || len(l) != 0 {
				t.Error("Sorted", o, l, e)
			}
			if l, e := Heights(o); e != want || len(l) != 0 {
				t.Error("Heights", o, l, e)
			}
			if l, e := Chain(o); e != want || len(l) != 0 {
				t.Error("Chain", o, l, e)
			}
			if s, e := Split(o); e != want || len(s.Anti) != 0 || len(s.Chains) != 0 {
				t.Error("Split", o, s, e)
			}
		}
	}
}

// pairsOf has a pair for each bit of code.
func pairsOf(n int, code uint32) []api.Pair {
	var list []api.Pair
	for at := range n * n {
		if code>>uint(at)&1 == 1 {
			list = append(list, api.Pair{A: at / n, B: at % n})
		}
	}
	return list
}

// leastWith is the one order of list that has the pairs and is in all others that have them.
func leastWith(list []api.Order, pairs []api.Pair) (api.Order, bool) {
	var least api.Order
	found := false
	for _, o := range list {
		if !hasPairs(o, pairs) {
			continue
		}
		if !found || inside(o, least) {
			least, found = o, true
		}
	}
	return least, found
}

func hasPairs(o api.Order, pairs []api.Pair) bool {
	for _, p := range pairs {
		if !isBelow(o, p.A, p.B) {
			return false
		}
	}
	return true
}

func inside(a, b api.Order) bool {
	for i := range a.Up {
		if a.Up[i]&^b.Up[i] != 0 {
			return false
		}
	}
	return true
}

// A2: of all pairs of up to 4 elements, Of makes the least order that has them, or tells that there is none.
func TestOfLeast(t *testing.T) {
	for n := range 5 {
		list := ordersOf(n)
		for code := uint32(0); code < 1<<uint(n*n); code++ {
			pairs := pairsOf(n, code)
			o, e := Of(n, pairs)
			want, found := leastWith(list, pairs)
			if found && (e != api.OK || !same(o, want)) {
				t.Fatal(n, pairs, o, e, want)
			}
			if !found && (e != api.ErrCycle || o.N != 0 || len(o.Up) != 0) {
				t.Fatal(n, pairs, o, e)
			}
		}
	}
}

func TestOfGreat(t *testing.T) {
	var up, down, ring []api.Pair
	for i := range 15 {
		up = append(up, api.Pair{A: i, B: i + 1})
		down = append(down, api.Pair{A: i + 1, B: i})
	}
	if o, e := Of(16, up); e != api.OK || !same(o, line(16)) {
		t.Error(o, e)
	}
	o, e := Of(16, down)
	if e != api.OK || o.N != 16 {
		t.Fatal(o, e)
	}
	for i, w := range o.Up {
		if w != 1<<uint(i+1)-1 {
			t.Error(i, w)
		}
	}
	ring = append(append(ring, up...), api.Pair{A: 15, B: 0})
	if o, e := Of(16, ring); e != api.ErrCycle || o.N != 0 || len(o.Up) != 0 {
		t.Error(o, e)
	}
	if o, e := Of(16, nil); e != api.OK || !same(o, flat(16)) {
		t.Error(o, e)
	}
	if o, e := Of(0, nil); e != api.OK || o.N != 0 || len(o.Up) != 0 {
		t.Error(o, e)
	}
}

// A2: each error, ahead of those that are named behind it.
func TestOfWrong(t *testing.T) {
	most := make([]api.Pair, api.MaxPairs)
	more := make([]api.Pair, api.MaxPairs+1)
	bad := slices.Repeat([]api.Pair{{A: 9, B: -9}}, api.MaxPairs+1)
	ring := []api.Pair{{A: 0, B: 1}, {A: 1, B: 0}}
	if o, e := Of(2, most); e != api.OK || !same(o, flat(2)) {
		t.Error(o, e)
	}
	for _, c := range []struct {
		n     int
		pairs []api.Pair
		want  api.Errno
	}{
		{-1, nil, api.ErrLarge}, {17, nil, api.ErrLarge}, {math.MinInt, ring, api.ErrLarge}, {math.MaxInt, ring, api.ErrLarge},
		{2, more, api.ErrLarge}, {2, bad, api.ErrLarge}, {17, []api.Pair{{A: 17, B: 0}}, api.ErrLarge},
		{0, []api.Pair{{}}, api.ErrArg}, {2, []api.Pair{{A: 2, B: 0}}, api.ErrArg}, {2, []api.Pair{{A: 0, B: 2}}, api.ErrArg},
		{2, []api.Pair{{A: -1, B: 0}}, api.ErrArg}, {2, []api.Pair{{A: 0, B: -1}}, api.ErrArg},
		{2, []api.Pair{{A: math.MaxInt, B: 0}}, api.ErrArg}, {2, []api.Pair{{A: 0, B: math.MinInt}}, api.ErrArg},
		{2, append(slices.Clone(ring), api.Pair{A: 0, B: 2}), api.ErrArg},
		{2, ring, api.ErrCycle}, {3, []api.Pair{{A: 0, B: 1}, {A: 1, B: 2}, {A: 2, B: 0}}, api.ErrCycle},
	} {
		if o, e := Of(c.n, c.pairs); e != c.want || o.N != 0 || len(o.Up) != 0 {
			t.Error(c, o, e)
		}
	}
}

// A3
func TestDual(t *testing.T) {
	for _, o := range manyOrders(t) {
		d, e := Dual(o)
		if e != api.OK || d.N != o.N || Check(d) != api.OK {
			t.Fatal(o, d, e)
		}
		for i := range o.N {
			for j := range o.N {
				if isBelow(d, i, j) != isBelow(o, j, i) {
					t.Fatal(o, d, i, j)
				}
			}
		}
	}
}

// coversOf says A3's words, by A, then by B.
func coversOf(o api.Order) []api.Pair {
	var list []api.Pair
	for a := range o.N {
		for b := range o.N {
			near := isStrictly(o, a, b)
			for c := range o.N {
				near = near && !(isStrictly(o, a, c) && isStrictly(o, c, b))
			}
			if near {
				list = append(list, api.Pair{A: a, B: b})
			}
		}
	}
	return list
}

// A3: the covers, and the order is the one that they are of.
func TestCovers(t *testing.T) {
	for _, o := range manyOrders(t) {
		l, e := Covers(o)
		if e != api.OK || !slices.Equal(l, coversOf(o)) {
			t.Fatal(o, l, e)
		}
		if back, e := Of(o.N, l); e != api.OK || !same(back, o) {
			t.Fatal(o, l, back, e)
		}
	}
	if l, e := Covers(subsets()); e != api.OK || len(l) != 32 {
		t.Error(l, e)
	}
}
