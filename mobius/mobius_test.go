package mobius

import (
	"math"
	"slices"
	"testing"

	"watershed/api"
	"watershed/order"
)

// onesOf: F1's words.
func onesOf(o api.Order) []int64 {
	list := make([]int64, o.N*o.N)
	for a := range o.N {
		list[a*o.N+a] = 1
	}
	return list
}

// zetaOf: F1's words.
func zetaOf(o api.Order) []int64 {
	list := make([]int64, o.N*o.N)
	for a := range o.N {
		for b := range o.N {
			if isBelow(o, a, b) {
				list[a*o.N+b] = 1
			}
		}
	}
	return list
}

// timesOf: F2's words.
func timesOf(o api.Order, f, g []int64) []int64 {
	list := make([]int64, o.N*o.N)
	for a := range o.N {
		for b := range o.N {
			for x := range o.N {
				if isBelow(o, a, x) && isBelow(o, x, b) {
					list[a*o.N+b] += f[a*o.N+x] * g[x*o.N+b]
				}
			}
		}
	}
	return list
}

// sumsOf: F3's words.
func sumsOf(o api.Order, v []int64) []int64 {
	list := make([]int64, o.N)
	for b := range o.N {
		for a := range o.N {
			if isBelow(o, a, b) {
				list[b] += v[a]
			}
		}
	}
	return list
}

// zeroApart: F1's words of what is 0.
func zeroApart(o api.Order, f []int64) bool {
	for a := range o.N {
		for b := range o.N {
			if !isBelow(o, a, b) && f[a*o.N+b] != 0 {
				return false
			}
		}
	}
	return true
}

// isInverse: F2's words; of a table there is no other one.
func isInverse(o api.Order, f, g []int64) bool {
	return len(g) == o.N*o.N && zeroApart(o, g) && slices.Equal(timesOf(o, f, g), onesOf(o))
}

// F1
func TestZeta(t *testing.T) {
	for _, o := range manyOrders(t) {
		if z, e := Zeta(o); e != api.OK || !slices.Equal(z, zetaOf(o)) {
			t.Fatal(o, z, e)
		}
	}
}

// F2, F1: what is beyond 64 bits falls away
func TestTimes(t *testing.T) {
	d := draws(1)
	for _, o := range manyOrders(t) {
		for range 6 {
			f, g := d.table(o, false), d.table(o, false)
			if p, e := Times(o, f, g); e != api.OK || !slices.Equal(p, timesOf(o, f, g)) {
				t.Fatal(o, f, g, p, e)
			}
		}
		f := d.table(o, false)
		for _, pair := range [][2][]int64{{f, onesOf(o)}, {onesOf(o), f}} {
			if p, e := Times(o, pair[0], pair[1]); e != api.OK || !slices.Equal(p, f) {
				t.Fatal(o, f, p, e)
			}
		}
	}
}

// F2
func TestInverse(t *testing.T) {
	d := draws(2)
	for _, o := range manyOrders(t) {
		for range 6 {
			f := d.table(o, true)
			g, e := Inverse(o, f)
			if e != api.OK || !isInverse(o, f, g) {
				t.Fatal(o, f, g, e)
			}
			// What it is the inverse of is the inverse of it.
			if h, e := Inverse(o, g); e != api.OK || !slices.Equal(h, f) {
				t.Fatal(o, f, g, h, e)
			}
		}
	}
}

// F2
func TestMu(t *testing.T) {
	for _, o := range manyOrders(t) {
		m, e := Mu(o)
		if e != api.OK || !isInverse(o, zetaOf(o), m) {
			t.Fatal(o, m, e)
		}
		if g, e := Inverse(o, zetaOf(o)); e != api.OK || !slices.Equal(g, m) {
			t.Fatal(o, g, m, e)
		}
	}
}

// F2: of sets, the number of things between tells the sign.
func TestMuOfSubsets(t *testing.T) {
	o := subsets(4)
	m, e := Mu(o)
	if e != api.OK {
		t.Fatal(e)
	}
	signs := []int64{1, -1, -1, 1, -1, 1, 1, -1, -1, 1, 1, -1, 1, -1, -1, 1}
	for a := range o.N {
		for b := range o.N {
			want := signs[a^b]
			if a&^b != 0 {
				want = 0
			}
			if m[a*o.N+b] != want {
				t.Error(a, b, m[a*o.N+b], want)
			}
		}
	}
}

// F2: the chapter's example, and some others that are said here one by one.
func TestByHand(t *testing.T) {
	for _, x := range []struct {
		o api.Order
		m []int64
	}{
		{api.Order{N: 4, Up: []uint32{15, 10, 12, 8}}, []int64{1, -1, -1, 1, 0, 1, 0, -1, 0, 0, 1, -1, 0, 0, 0, 1}},
		{line(t, 3), []int64{1, -1, 0, 0, 1, -1, 0, 0, 1}},
		{dual(t, line(t, 3)), []int64{1, 0, 0, -1, 1, 0, 0, -1, 1}},
		{flat(t, 2), []int64{1, 0, 0, 1}},
		{between(t, 3), []int64{1, 0, 0, 0, -1, 0, 1, 0, 0, -1, 0, 0, 1, 0, -1, -1, -1, -1, 1, 2, 0, 0, 0, 0, 1}},
		{api.Order{}, nil},
	} {
		if m, e := Mu(x.o); e != api.OK || !slices.Equal(m, x.m) {
			t.Error(x.o, m, e, x.m)
		}
	}
	if m, e := Mu(between(t, 14)); e != api.OK || m[14*16+15] != 13 {
		t.Error(m, e)
	}
	big := int64(1) << 62
	f := []int64{-1, big, 7, 0, 1, 4, 0, 0, -1}
	if g, e := Inverse(line(t, 3), f); e != api.OK || !slices.Equal(g, []int64{-1, big, -7, 0, 1, 4, 0, 0, -1}) {
		t.Error(g, e)
	}
	if p, e := Times(line(t, 2), []int64{big, big, 0, 5}, []int64{2, 3, 0, 1}); e != api.OK || !slices.Equal(p, []int64{math.MinInt64, 0, 0, 5}) {
		t.Error(p, e)
	}
}

// F3
func TestSumsAndUndo(t *testing.T) {
	d := draws(3)
	for _, o := range manyOrders(t) {
		for range 8 {
			v := d.numbers(o.N)
			s, e := Sums(o, v)
			if e != api.OK || !slices.Equal(s, sumsOf(o, v)) {
				t.Fatal(o, v, s, e)
			}
			if w, e := Undo(o, s); e != api.OK || !slices.Equal(w, v) {
				t.Fatal(o, v, s, w, e)
			}
			w, e := Undo(o, v)
			if e != api.OK || len(w) != o.N || !slices.Equal(sumsOf(o, w), v) {
				t.Fatal(o, v, w, e)
			}
		}
	}
}

// F3: numbers that are said here one by one; also such as go beyond 64 bits.
func TestSumsByHand(t *testing.T) {
	for _, x := range []struct {
		o    api.Order
		v, s []int64
	}{
		{line(t, 3), []int64{1, 2, 3}, []int64{1, 3, 6}},
		{dual(t, line(t, 3)), []int64{1, 2, 3}, []int64{6, 5, 3}},
		{flat(t, 3), []int64{1, 2, 3}, []int64{1, 2, 3}},
		{subsets(2), []int64{1, 2, 3, 4}, []int64{1, 3, 4, 10}},
		{line(t, 2), []int64{math.MaxInt64, 1}, []int64{math.MaxInt64, math.MinInt64}},
		{line(t, 2), []int64{math.MinInt64, math.MinInt64}, []int64{math.MinInt64, 0}},
		{api.Order{}, nil, nil},
	} {
		if s, e := Sums(x.o, x.v); e != api.OK || !slices.Equal(s, x.s) {
			t.Error(x.o, x.v, s, e)
		}
		if v, e := Undo(x.o, x.s); e != api.OK || !slices.Equal(v, x.v) {
			t.Error(x.o, x.s, v, e)
		}
	}
}

// chainsOf: F4's words, chain by chain: those that begin with a, for each b that they end with.
func chainsOf(o api.Order, a int) [][]int64 {
	lists := make([][]int64, o.N)
	for b := range lists {
		lists[b] = make([]int64, o.N)
	}
	var walk func(x, k int)
	walk = func(x, k int) {
		lists[x][k]++
		for y := range o.N {
			if y != x && isBelow(o, x, y) {
				walk(y, k+1)
			}
		}
	}
	walk(a, 0)
	return lists
}

// F4
func TestChains(t *testing.T) {
	long := 0
	for _, o := range manyOrders(t) {
		for a := range o.N {
			for b, want := range chainsOf(o, a) {
				if l, e := Chains(o, a, b); e != api.OK || !slices.Equal(l, want) {
					t.Fatal(o, a, b, l, e, want)
				}
				if o.N > 3 && want[3] > 0 {
					long++
				}
			}
		}
	}
	if long < 300 {
		t.Error("not all kinds are seen", long)
	}
}

// F4, F2: what chains of more and more elements add and take away in turn is Mu.
func TestChainsTellMu(t *testing.T) {
	for _, o := range manyOrders(t) {
		m, e := Mu(o)
		if e != api.OK {
			t.Fatal(o, e)
		}
		for a := range o.N {
			for b := range o.N {
				l, _ := Chains(o, a, b)
				sum, sign := int64(0), int64(1)
				for _, x := range l {
					sum += sign * x
					sign = -sign
				}
				if sum != m[a*o.N+b] {
					t.Fatal(o, a, b, l, sum, m[a*o.N+b])
				}
			}
		}
	}
}

// F4: what is said here one by one.
func TestChainsByHand(t *testing.T) {
	choose := []int64{0, 1, 14, 91, 364, 1001, 2002, 3003, 3432, 3003, 2002, 1001, 364, 91, 14, 1}
	alone := make([]int64, 16)
	alone[0] = 1
	for _, x := range []struct {
		o    api.Order
		a, b int
		want []int64
	}{
		{line(t, 1), 0, 0, []int64{1}},
		{line(t, 3), 0, 2, []int64{0, 1, 1}},
		{line(t, 3), 0, 1, []int64{0, 1, 0}},
		{line(t, 3), 1, 1, []int64{1, 0, 0}},
		{line(t, 3), 2, 0, []int64{0, 0, 0}},
		{flat(t, 2), 0, 1, []int64{0, 0}},
		{subsets(2), 0, 3, []int64{0, 1, 2, 0}},
		{line(t, 16), 0, 15, choose},
		{line(t, 16), 15, 0, make([]int64, 16)},
		{line(t, 16), 15, 15, alone},
		{dual(t, line(t, 16)), 15, 0, choose},
		// 4 things come one by one, in any order: 24; in 2 steps 14, in 3 steps 36.
		{subsets(4), 0, 15, []int64{0, 1, 14, 36, 24, 0, 0, 0, 0, 0, 0, 0, 0, 0, 0, 0}},
	} {
		if l, e := Chains(x.o, x.a, x.b); e != api.OK || !slices.Equal(l, x.want) {
			t.Error(x.o, x.a, x.b, l, e, x.want)
		}
	}
}

// refuses holds what a call tells against the error that it must tell, with nothing beside it.
func refuses(t *testing.T, what string, l []int64, e, want api.Errno) {
	t.Helper()
	if e != want || len(l) != 0 {
		t.Error(what, l, e, want)
	}
}

// F1: what is no table, on either side; ahead of what has no inverse.
func TestNoTables(t *testing.T) {
	o := made(t, 3, []api.Pair{{A: 2, B: 0}})
	good := onesOf(o)
	var wrong [][]int64
	for _, n := range []int{0, 1, 3, 8, 10, 16, 256} {
		wrong = append(wrong, make([]int64, n))
	}
	for _, at := range []int{1, 2, 3, 5, 7} {
		for _, x := range []int64{1, -1, math.MinInt64, 1 << 32} {
			f := slices.Clone(good)
			f[at] = x
			wrong = append(wrong, f)
			f = slices.Clone(f)
			f[0] = 2
			wrong = append(wrong, f)
		}
	}
	for _, f := range wrong {
		l, e := Times(o, f, good)
		refuses(t, "Times", l, e, api.ErrArg)
		l, e = Times(o, good, f)
		refuses(t, "Times", l, e, api.ErrArg)
		l, e = Inverse(o, f)
		refuses(t, "Inverse", l, e, api.ErrArg)
	}
	l, e := Times(api.Order{}, []int64{0}, nil)
	refuses(t, "Times", l, e, api.ErrArg)
	l, e = Inverse(api.Order{}, []int64{1})
	refuses(t, "Inverse", l, e, api.ErrArg)
}

// F1: a table may have any number where a is below b, and of each place where it isn't, one other number than 0 makes it none.
func TestEachPlaceOfTables(t *testing.T) {
	for _, o := range manyOrders(t) {
		for i := range o.N * o.N {
			f := onesOf(o)
			f[i]--
			want := api.OK
			if !isBelow(o, i/o.N, i%o.N) {
				want = api.ErrArg
			}
			if _, e := Times(o, f, onesOf(o)); e != want {
				t.Fatal(o, f, e, want)
			}
			if i/o.N == i%o.N {
				want = api.ErrNone
			}
			if _, e := Inverse(o, f); e != want {
				t.Fatal(o, f, e, want)
			}
		}
	}
}

// F2: at each place a and a, each number but 1 and -1, also such as have an inverse among numbers of 64 bits.
func TestNoInverse(t *testing.T) {
	for _, n := range []int{1, 3, 16} {
		o := line(t, n)
		for a := range n {
			for _, x := range []int64{0, 2, -2, 3, -3, 5, 1 << 32, 1<<32 + 1, math.MaxInt64, math.MinInt64, math.MinInt64 + 1} {
				f := onesOf(o)
				f[a*n+a] = x
				l, e := Inverse(o, f)
				refuses(t, "Inverse", l, e, api.ErrNone)
			}
		}
	}
}

// F3, F4
func TestWrongNumbers(t *testing.T) {
	for _, o := range []api.Order{{}, line(t, 3), flat(t, 16)} {
		for n := range 20 {
			if n == o.N {
				continue
			}
			l, e := Sums(o, make([]int64, n))
			refuses(t, "Sums", l, e, api.ErrArg)
			l, e = Undo(o, make([]int64, n))
			refuses(t, "Undo", l, e, api.ErrArg)
		}
		for _, x := range []int{-1, o.N, o.N + 64, -64, math.MinInt, math.MaxInt, 1 << 32} {
			for _, pair := range [][2]int{{x, 0}, {0, x}, {x, x}} {
				l, e := Chains(o, pair[0], pair[1])
				refuses(t, "Chains", l, e, api.ErrArg)
			}
		}
	}
}

// F1, F2: an order of nothing has one table, which has no numbers.
func TestNothing(t *testing.T) {
	for _, f := range [][]int64{nil, {}} {
		z, e1 := Zeta(api.Order{})
		p, e2 := Times(api.Order{}, f, f)
		g, e3 := Inverse(api.Order{}, f)
		if e1 != api.OK || e2 != api.OK || e3 != api.OK || len(z)+len(p)+len(g) != 0 {
			t.Error(z, p, g, e1, e2, e3)
		}
	}
}

// A1: Check's error of the order comes first, whatever else is wrong.
func TestWrongOrders(t *testing.T) {
	for _, o := range wrongOrders() {
		want := order.Check(o)
		if want == api.OK {
			t.Fatal(o)
		}
		l, e := Zeta(o)
		refuses(t, "Zeta", l, e, want)
		l, e = Mu(o)
		refuses(t, "Mu", l, e, want)
		for _, n := range []int{0, 1, 2, 4, 9, 17, 289} {
			f := make([]int64, n)
			l, e = Times(o, f, f)
			refuses(t, "Times", l, e, want)
			l, e = Inverse(o, f)
			refuses(t, "Inverse", l, e, want)
			l, e = Sums(o, f)
			refuses(t, "Sums", l, e, want)
			l, e = Undo(o, f)
			refuses(t, "Undo", l, e, want)
			l, e = Chains(o, -1, n)
			refuses(t, "Chains", l, e, want)
			l, e = Chains(o, 0, 0)
			refuses(t, "Chains", l, e, want)
		}
	}
}
