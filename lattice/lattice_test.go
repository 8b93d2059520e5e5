package lattice

import (
	"math"
	"slices"
	"testing"

	"watershed/api"
	"watershed/order"
)

func isBelow(o api.Order, a, b int) bool {
	return o.Up[a]>>uint(b)&1 == 1
}

// joinOf says B1's words; -1, if there is none.
func joinOf(o api.Order, a, b int) int {
	for j := range o.N {
		ok := isBelow(o, a, j) && isBelow(o, b, j)
		for k := range o.N {
			if isBelow(o, a, k) && isBelow(o, b, k) && !isBelow(o, j, k) {
				ok = false
			}
		}
		if ok {
			return j
		}
	}
	return -1
}

func meetOf(o api.Order, a, b int) int {
	for m := range o.N {
		ok := isBelow(o, m, a) && isBelow(o, m, b)
		for k := range o.N {
			if isBelow(o, k, a) && isBelow(o, k, b) && !isBelow(o, k, m) {
				ok = false
			}
		}
		if ok {
			return m
		}
	}
	return -1
}

func isLattice(o api.Order) bool {
	for a := range o.N {
		for b := range o.N {
			if joinOf(o, a, b) < 0 || meetOf(o, a, b) < 0 {
				return false
			}
		}
	}
	return o.N > 0
}

// smallOrders are all orders of up to 4 elements, lattices and others.
func smallOrders() []api.Order {
	var list []api.Order
	for n := range 5 {
		for code := range 1 << uint(n*n) {
			o := api.Order{N: n, Up: make([]uint32, n)}
			for i := range n {
				o.Up[i] = uint32(code>>uint(i*n)) & (1<<uint(n) - 1)
			}
			if order.Check(o) == api.OK {
				list = append(list, o)
			}
		}
	}
	return list
}

// draws are numbers that say nothing of one another, and the same ones each time.
type draws uint32

func (d *draws) to(n int) int {
	*d = *d*1664525 + 1013904223
	return int(*d>>16) % n
}

// byWords is the order of sets, a word each, in which one is below those that have all of it.
func byWords(words []uint32) api.Order {
	o := api.Order{N: len(words), Up: make([]uint32, len(words))}
	for i, a := range words {
		for j, b := range words {
			if a&^b == 0 {
				o.Up[i] |= 1 << uint(j)
			}
		}
	}
	return o
}

// mixed are lattices of sets, with all that sets of it have in common, whose numbers say nothing of what is below what. Each
// lattice is of that kind.
func mixed(t *testing.T) []api.Order {
	var list []api.Order
	d := draws(7)
	many := make([]int, api.MaxN+1)
	for len(list) < 400 {
		words := []uint32{255}
		for range 1 + d.to(8) {
			words = append(words, uint32(d.to(256)))
		}
		for k := 0; k < len(words); k++ {
			for i := range k {
				if w := words[i] & words[k]; !slices.Contains(words, w) {
					words = append(words, w)
				}
			}
		}
		slices.Sort(words)
		words = slices.Compact(words)
		if len(words) > api.MaxN || many[len(words)] >= 40 {
			continue
		}
		many[len(words)]++
		for i := range words {
			k := d.to(i + 1)
			words[i], words[k] = words[k], words[i]
		}
		o := byWords(words)
		if !isLattice(o) {
			t.Fatal(o)
		}
		list = append(list, o)
	}
	return list
}

// diamond is M3, the chapter's example; pentagon is N5, the least lattice that is not modular.
func diamond() api.Order { return api.Order{N: 5, Up: []uint32{31, 18, 20, 24, 16}} }

func pentagon() api.Order { return api.Order{N: 5, Up: []uint32{31, 22, 20, 24, 16}} }

// subsets is the lattice of the subsets of 4 things, line the lattice of n elements one above the other.
func subsets() api.Order {
	words := make([]uint32, 16)
	for i := range words {
		words[i] = uint32(i)
	}
	return byWords(words)
}

func line(n int) api.Order {
	o := api.Order{N: n, Up: make([]uint32, n)}
	for i := range n {
		o.Up[i] = (1<<uint(n) - 1) &^ (1<<uint(i) - 1)
	}
	return o
}

// fan has n elements, of which all but the first and the last lie side by side.
func fan(n int) api.Order {
	o := api.Order{N: n, Up: make([]uint32, n)}
	for i := range n {
		o.Up[i] = 1<<uint(i) | 1<<uint(n-1)
	}
	o.Up[0] = 1<<uint(n) - 1
	return o
}

// lattices are small ones, great ones and the edges.
func lattices(t *testing.T) []api.Order {
	var list []api.Order
	for _, o := range smallOrders() {
		if isLattice(o) {
			list = append(list, o)
		}
	}
	list = append(list, mixed(t)...)
	return append(list, diamond(), pentagon(), subsets(), line(16), line(1), line(2), fan(16))
}

func at(list []int, n, a, b int) int { return list[a*n+b] }

// B1
func TestMake(t *testing.T) {
	for _, o := range lattices(t) {
		l, e := Make(o)
		if e != api.OK || len(l.Join) != o.N*o.N || len(l.Meet) != o.N*o.N {
			t.Fatal(o, l, e)
		}
		for a := range o.N {
			for b := range o.N {
				if at(l.Join, o.N, a, b) != joinOf(o, a, b) || at(l.Meet, o.N, a, b) != meetOf(o, a, b) {
					t.Fatal(o, a, b, l)
				}
			}
			if !isBelow(o, l.Bottom, a) || !isBelow(o, a, l.Top) {
				t.Fatal(o, a, l)
			}
		}
	}
	one := api.Lattice{Join: []int{0}, Meet: []int{0}}
	l, e := Make(line(1))
	if e != api.OK || !slices.Equal(l.Join, one.Join) || !slices.Equal(l.Meet, one.Meet) || l.Bottom != 0 || l.Top != 0 {
		t.Error(l, e)
	}
	// Upside down by its numbers: the least element is the last one.
	d, _ := order.Dual(line(16))
	if l, e := Make(d); e != api.OK || l.Bottom != 15 || l.Top != 0 {
		t.Error(l, e)
	}
}

// hasNothing tells if l is zero.
func hasNothing(l api.Lattice) bool {
	return len(l.Join) == 0 && len(l.Meet) == 0 && l.Bottom == 0 && l.Top == 0
}

// refuses holds each call against the error that it must tell of o, with nothing beside it; gens are wrong, too.
func refuses(t *testing.T, o api.Order, want api.Errno) {
	t.Helper()
	if l, e := Make(o); e != want || !hasNothing(l) {
		t.Error("Make", o, l, e, want)
	}
	if a, b, e := Irreducible(o); e != want || len(a) != 0 || len(b) != 0 {
		t.Error("Irreducible", o, a, b, e, want)
	}
	if k, e := Kind(o); e != want || k != (api.Kind{}) {
		t.Error("Kind", o, k, e, want)
	}
	for _, gens := range [][]int{nil, {0}, {-1}, {17}, make([]int, 17)} {
		if s, e := Sub(o, gens); e != want || len(s) != 0 {
			t.Error("Sub", o, gens, s, e, want)
		}
	}
	if x, e := TableOf(o); e != want || x.N != 0 || len(x.Up) != 0 || !hasNothing(x.Lattice) {
		t.Error("TableOf", o, x, e, want)
	}
}

// B1: each order that is no lattice is told as one.
func TestNoLattice(t *testing.T) {
	none := 0
	for _, o := range smallOrders() {
		if !isLattice(o) {
			none++
			refuses(t, o, api.ErrNone)
		}
	}
	if none == 0 {
		t.Error("all are lattices")
	}
	// Joins of all two, but no least element; the other way round; two upper bounds side by side; nothing at all.
	fork := fan(16)
	fork.Up[0] &^= 1 << 1
	turned, _ := order.Dual(fork)
	crossed := api.Order{N: 6, Up: []uint32{63, 58, 60, 40, 48, 32}}
	flat := api.Order{N: 16, Up: make([]uint32, 16)}
	for i := range flat.Up {
		flat.Up[i] = 1 << uint(i)
	}
	for _, o := range []api.Order{fork, turned, crossed, flat, {}, {Up: []uint32{}}} {
		if order.Check(o) != api.OK {
			t.Fatal(o)
		}
		refuses(t, o, api.ErrNone)
	}
}

// B1: Check's error comes ahead of all others.
func TestNoOrder(t *testing.T) {
	for _, o := range []api.Order{{N: 17}, {N: -1}, {N: math.MaxInt}, {N: math.MinInt, Up: []uint32{1}}} {
		refuses(t, o, api.ErrLarge)
	}
	for _, o := range []api.Order{{N: 1}, {N: 0, Up: []uint32{0}}, {N: 2, Up: []uint32{1, 4}}, {N: 1, Up: []uint32{math.MaxUint32}}} {
		refuses(t, o, api.ErrArg)
	}
	for _, o := range []api.Order{{N: 1, Up: []uint32{0}}, {N: 2, Up: []uint32{3, 3}}, {N: 3, Up: []uint32{3, 6, 4}}} {
		refuses(t, o, api.ErrForm)
	}
}

// coversOf are the pairs of A3, by its words.
func coversOf(o api.Order) []api.Pair {
	var list []api.Pair
	for a := range o.N {
		for b := range o.N {
			ok := a != b && isBelow(o, a, b)
			for c := range o.N {
				if c != a && c != b && isBelow(o, a, c) && isBelow(o, c, b) {
					ok = false
				}
			}
			if ok {
				list = append(list, api.Pair{A: a, B: b})
			}
		}
	}
	return list
}

// B2
func TestIrreducible(t *testing.T) {
	for _, o := range lattices(t) {
		var low, high []int
		for i := range o.N {
			under, over := 0, 0
			for _, p := range coversOf(o) {
				if p.B == i {
					under++
				}
				if p.A == i {
					over++
				}
			}
			if under == 1 {
				low = append(low, i)
			}
			if over == 1 {
				high = append(high, i)
			}
		}
		if a, b, e := Irreducible(o); e != api.OK || !slices.Equal(a, low) || !slices.Equal(b, high) {
			t.Fatal(o, a, b, e, low, high)
		}
	}
	if a, b, e := Irreducible(subsets()); e != api.OK || !slices.Equal(a, []int{1, 2, 4, 8}) || !slices.Equal(b, []int{7, 11, 13, 14}) {
		t.Error(a, b, e)
	}
	if a, b, e := Irreducible(line(3)); e != api.OK || !slices.Equal(a, []int{1, 2}) || !slices.Equal(b, []int{0, 1}) {
		t.Error(a, b, e)
	}
	if a, b, e := Irreducible(line(1)); e != api.OK || len(a) != 0 || len(b) != 0 {
		t.Error(a, b, e)
	}
}

// kindOf says B3's words.
func kindOf(o api.Order) api.Kind {
	k := api.Kind{Distributive: true, Modular: true, Complemented: true}
	for a := range o.N {
		sides := 0
		for b := range o.N {
			top, bottom := joinOf(o, a, b), meetOf(o, a, b)
			whole := true
			for c := range o.N {
				whole = whole && isBelow(o, c, top) && isBelow(o, bottom, c)
				left := meetOf(o, a, joinOf(o, b, c))
				right := joinOf(o, meetOf(o, a, b), meetOf(o, a, c))
				if k.Distributive && left != right {
					k.Distributive, k.A, k.B, k.C = false, a, b, c
				}
				if isBelow(o, a, c) && joinOf(o, a, meetOf(o, b, c)) != meetOf(o, joinOf(o, a, b), c) {
					k.Modular = false
				}
			}
			if whole {
				sides++
			}
		}
		k.Complemented = k.Complemented && sides > 0
	}
	return k
}

// B3
func TestKind(t *testing.T) {
	kinds := map[api.Kind]int{}
	for _, o := range lattices(t) {
		want := kindOf(o)
		if k, e := Kind(o); e != api.OK || k != want {
			t.Fatal(o, k, e, want)
		}
		want.A, want.B, want.C = 0, 0, 0
		kinds[want]++
	}
	// Each kind that there can be has been seen: what is distributive is modular.
	if len(kinds) != 6 {
		t.Error(kinds)
	}
	for _, c := range []struct {
		o api.Order
		k api.Kind
	}{
		{diamond(), api.Kind{Modular: true, Complemented: true, A: 1, B: 2, C: 3}},
		{pentagon(), api.Kind{Complemented: true, A: 2, B: 1, C: 3}},
		{subsets(), api.Kind{Distributive: true, Modular: true, Complemented: true}},
		{line(16), api.Kind{Distributive: true, Modular: true}},
		{line(2), api.Kind{Distributive: true, Modular: true, Complemented: true}},
		{line(1), api.Kind{Distributive: true, Modular: true, Complemented: true}},
	} {
		if k, e := Kind(c.o); e != api.OK || k != c.k {
			t.Error(c.o, k, e, c.k)
		}
	}
}

// subOf says B4's words: again and again, until nothing new is made.
func subOf(o api.Order, gens []int) []int {
	in := make([]bool, o.N)
	for _, i := range gens {
		in[i] = true
	}
	for grown := true; grown; {
		grown = false
		for a := range o.N {
			for b := range o.N {
				if !in[a] || !in[b] {
					continue
				}
				for _, c := range []int{joinOf(o, a, b), meetOf(o, a, b)} {
					grown = grown || !in[c]
					in[c] = true
				}
			}
		}
	}
	var list []int
	for i, is := range in {
		if is {
			list = append(list, i)
		}
	}
	return list
}

// B4
func TestSub(t *testing.T) {
	d := draws(3)
	for _, o := range lattices(t) {
		for n := range 7 {
			gens := make([]int, n)
			for i := range gens {
				gens[i] = d.to(o.N)
			}
			if s, e := Sub(o, gens); e != api.OK || !slices.Equal(s, subOf(o, gens)) {
				t.Fatal(o, gens, s, e, subOf(o, gens))
			}
		}
	}
	for _, c := range []struct {
		o          api.Order
		gens, want []int
	}{
		{diamond(), []int{2, 1}, []int{0, 1, 2, 4}},
		{diamond(), nil, nil},
		{diamond(), []int{3, 3, 3}, []int{3}},
		// What is made must be put together again: 1 is made of what is made of these, and 0 of what is made of that.
		{subsets(), []int{14, 13, 7, 11}, []int{0, 1, 2, 3, 4, 5, 6, 7, 8, 9, 10, 11, 12, 13, 14, 15}},
		{line(16), []int{9, 2, 5}, []int{2, 5, 9}},
		{line(1), make([]int, 16), []int{0}},
	} {
		if s, e := Sub(c.o, c.gens); e != api.OK || !slices.Equal(s, c.want) {
			t.Error(c.o, c.gens, s, e, c.want)
		}
	}
}

// B4: gens that are none; the number of them is told ahead of what they are.
func TestSubWrong(t *testing.T) {
	many := make([]int, 17)
	far := slices.Clone(many)
	far[3] = 99
	for _, c := range []struct {
		gens []int
		want api.Errno
	}{
		{many, api.ErrLarge}, {far, api.ErrLarge}, {[]int{5}, api.ErrArg}, {[]int{-1}, api.ErrArg},
		{[]int{0, 1, 2, 3, 4, 5}, api.ErrArg}, {[]int{math.MaxInt}, api.ErrArg}, {[]int{math.MinInt, 0}, api.ErrArg},
		{many[:16], api.OK},
	} {
		if s, e := Sub(diamond(), c.gens); e != c.want || e != api.OK && len(s) != 0 {
			t.Error(c.gens, s, e, c.want)
		}
	}
}
