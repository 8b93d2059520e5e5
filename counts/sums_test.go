package counts

import (
	"math"
	"slices"
	"testing"

	"watershed/api"
)

// grid are times of two numbers, in the order of Less.
func grid() [][]int { return [][]int{{0, 0}, {0, 1}, {1, 0}, {1, 1}} }

// edges are counts that a tally may have, or Add be asked for, and such beyond.
func edges() []int64 {
	return []int64{math.MinInt64, -most - 1, -most, -most + 1, -2, -1, 0, 1, 2, most - 1, most, most + 1, math.MaxInt64}
}

// K2: all counts of up to three times, and all that may be added.
func TestAdd(t *testing.T) {
	seen := map[api.Errno]int{}
	for _, c := range tallies(grid()[:3], -most, -2, -1, 1, 2, most) {
		for _, at := range append(grid(), []int{0}, []int{0, 0, 0}, []int{0, top + 1}, nil, []int{0, 0, 0, 0, 0}) {
			for _, n := range edges() {
				seen[tellsAdd(t, c, at, n)]++
			}
		}
	}
	for _, e := range []api.Errno{api.OK, api.ErrLarge, api.ErrForm, api.ErrArg, api.ErrOver} {
		if seen[e] < 300 {
			t.Error("not all kinds are seen", seen)
		}
	}
}

// K2: what is said of Add one by one.
func TestAddByHand(t *testing.T) {
	c := []api.Count{of(2, 0, 2), of(-3, 1, 0)}
	for _, x := range []struct {
		c    []api.Count
		t    []int
		n    int64
		want []api.Count
		code api.Errno
	}{
		{nil, []int{7}, 1, []api.Count{of(1, 7)}, api.OK},
		{nil, []int{7}, -1, []api.Count{of(-1, 7)}, api.OK},
		{nil, []int{7}, 0, nil, api.OK},
		{nil, []int{7, 0, 0, top}, most, []api.Count{of(most, 7, 0, 0, top)}, api.OK},
		{nil, []int{7}, -most, []api.Count{of(-most, 7)}, api.OK},
		{c, []int{0, 2}, 1, []api.Count{of(3, 0, 2), of(-3, 1, 0)}, api.OK},
		{c, []int{0, 2}, -2, []api.Count{of(-3, 1, 0)}, api.OK},
		{c, []int{0, 2}, -3, []api.Count{of(-1, 0, 2), of(-3, 1, 0)}, api.OK},
		{c, []int{1, 0}, 3, []api.Count{of(2, 0, 2)}, api.OK},
		{c, []int{1, 0}, 0, c, api.OK},
		{c, []int{5, 5}, 0, c, api.OK},
		{c, []int{0, 1}, 4, []api.Count{of(4, 0, 1), of(2, 0, 2), of(-3, 1, 0)}, api.OK},
		{c, []int{0, 3}, 4, []api.Count{of(2, 0, 2), of(4, 0, 3), of(-3, 1, 0)}, api.OK},
		{c, []int{1, 1}, 4, []api.Count{of(2, 0, 2), of(-3, 1, 0), of(4, 1, 1)}, api.OK},
		{c, []int{10, 0}, 4, []api.Count{of(2, 0, 2), of(-3, 1, 0), of(4, 10, 0)}, api.OK},
		{c, []int{0, 2}, most - 2, []api.Count{of(most, 0, 2), of(-3, 1, 0)}, api.OK},
		{c, []int{0, 2}, most - 1, nil, api.ErrOver},
		{c, []int{0, 2}, -most, []api.Count{of(2-most, 0, 2), of(-3, 1, 0)}, api.OK},
		{c, []int{1, 0}, 3 - most, []api.Count{of(2, 0, 2), of(-most, 1, 0)}, api.OK},
		{c, []int{1, 0}, 2 - most, nil, api.ErrOver},
		{[]api.Count{of(-most, 0)}, []int{0}, most, nil, api.OK},
		{[]api.Count{of(most, 0)}, []int{0}, most, nil, api.ErrOver},
		// Which error is told.
		{c, nil, most + 1, nil, api.ErrLarge},
		{c, []int{0, 0, 0, 0, -1}, 1, nil, api.ErrLarge},
		{c, []int{-1}, most + 1, nil, api.ErrArg},
		{c, []int{0}, most + 1, nil, api.ErrForm},
		{c, []int{0, 0, 0}, 0, nil, api.ErrForm},
		{c, []int{0, 2}, most + 1, nil, api.ErrArg},
		{c, []int{0, 2}, math.MinInt64, nil, api.ErrArg},
		{nil, []int{0, 2}, math.MaxInt64, nil, api.ErrArg},
	} {
		l, e := Add(x.c, x.t, x.n)
		tells(t, "Add", x.c, []api.Count{of(x.n, x.t...)}, l, e, x.want, x.code)
	}
}

// K2: to a tally that is full, nothing may come that isn't there; what is there may change, or go.
func TestAddToMany(t *testing.T) {
	full := with(line(1, many, 2), most)
	for _, x := range []struct {
		t    []int
		n    int64
		size int
		code api.Errno
	}{
		{[]int{0, 0}, 1, 0, api.ErrLarge},
		{[]int{5, 6}, -1, 0, api.ErrLarge},
		{[]int{top, top}, most, 0, api.ErrLarge},
		{[]int{top, top}, most + 1, 0, api.ErrArg},
		{[]int{top}, most, 0, api.ErrForm},
		{[]int{0, 0}, 0, many, api.OK},
		{[]int{many, many}, 0, many, api.OK},
		{[]int{many, many}, -1, many, api.OK},
		{[]int{many, many}, 1, 0, api.ErrOver},
		{[]int{many, many}, -most, many - 1, api.OK},
		{[]int{1, 1}, -most, many - 1, api.OK},
	} {
		if l, e := Add(full, x.t, x.n); len(l) != x.size || e != x.code {
			t.Error(x.t, x.n, len(l), e)
		}
		tellsAdd(t, full, x.t, x.n)
	}
	l, e := Add(full[1:], []int{0, 0}, 1)
	tells(t, "Add", full[1:], nil, l, e, append([]api.Count{of(1, 0, 0)}, full[1:]...), api.OK)
}

// K2, K3: all pairs of small tallies.
func TestTwoTallies(t *testing.T) {
	for _, list := range [][][]api.Count{
		tallies(grid(), -1, 1),
		tallies(grid()[:3], -most, -1, 1, most),
		tallies([][]int{{3}, {4}}, -most, 1-most, -2, -1, 1, 2, most-1, most),
	} {
		for _, c := range list {
			tellsFront(t, c)
			for _, d := range list {
				tellsBoth(t, c, d)
			}
		}
	}
}

// K2, K3: mixed tallies of all lengths and sizes.
func TestMixedTallies(t *testing.T) {
	d := draws(3)
	seen := map[api.Errno]int{}
	for round := range 4000 {
		deep, n, size := 1+round%4, []int{2, 4, 9, top}[round/4%4], []int{3, 8, 40, many}[round/16%4]
		a, b := d.tally(size, deep, n), d.tally(size, deep, n)
		tellsFront(t, a)
		es := tellsBoth(t, a, b)
		seen[es[0]]++
		at := d.time(deep, n)
		if len(a) > 0 && d.to(2) == 0 {
			at = a[d.to(len(a))].Time
		}
		tellsAdd(t, a, at, d.n(true))
	}
	if seen[api.OK] < 1000 || seen[api.ErrOver] < 100 || seen[api.ErrLarge] < 50 || len(seen) != 3 {
		t.Error("not all kinds are seen", seen)
	}
}

// K2: mixed lists, which mostly are no tallies, and what is added to them.
func TestMixedErrors(t *testing.T) {
	d := draws(4)
	kinds := [][]int{{0}, {1}, {2}, {2, 3}, {3, 0}, {0, 0, 0, 0}, {-1}, {0, top + 1}, nil, {0, 0, 0, 0, 0}}
	ns := edges()
	pick := func() []api.Count {
		c := make([]api.Count, d.to(3))
		from := d.to(len(kinds))
		for i := range c {
			c[i] = of(ns[d.to(len(ns))], kinds[(from+i)%len(kinds)]...)
		}
		return c
	}
	seen := map[api.Errno]int{}
	for range 20000 {
		a, b := pick(), pick()
		seen[tellsBoth(t, a, b)[0]]++
		tellsFront(t, a)
		tellsAdd(t, a, kinds[d.to(len(kinds))], ns[d.to(len(ns))])
	}
	for _, e := range []api.Errno{api.OK, api.ErrLarge, api.ErrForm, api.ErrArg, api.ErrOver} {
		if seen[e] < 20 {
			t.Error("not all kinds are seen", seen)
		}
	}
}

// K2: what is said of Sum one by one.
func TestSumByHand(t *testing.T) {
	c := []api.Count{of(2, 0, 2), of(-3, 1, 0)}
	for _, x := range []struct {
		c, d, want []api.Count
		code       api.Errno
	}{
		{nil, nil, nil, api.OK},
		{c, nil, c, api.OK},
		{nil, c, c, api.OK},
		{c, c, []api.Count{of(4, 0, 2), of(-6, 1, 0)}, api.OK},
		{c, []api.Count{of(-2, 0, 2), of(3, 1, 0)}, nil, api.OK},
		{c, []api.Count{of(1, 0, 0), of(3, 1, 0), of(5, 9, 9)}, []api.Count{of(1, 0, 0), of(2, 0, 2), of(5, 9, 9)}, api.OK},
		{c, []api.Count{of(most-2, 0, 2)}, []api.Count{of(most, 0, 2), of(-3, 1, 0)}, api.OK},
		{c, []api.Count{of(most-1, 0, 2)}, nil, api.ErrOver},
		{c, []api.Count{of(3-most, 1, 0)}, []api.Count{of(2, 0, 2), of(-most, 1, 0)}, api.OK},
		{c, []api.Count{of(2-most, 1, 0)}, nil, api.ErrOver},
		{[]api.Count{of(most, 1)}, []api.Count{of(-most, 1)}, nil, api.OK},
		{[]api.Count{of(most, 1)}, []api.Count{of(most, 1)}, nil, api.ErrOver},
		{c, []api.Count{of(1, 0)}, nil, api.ErrForm},
	} {
		l, e := Sum(x.c, x.d)
		tells(t, "Sum", x.c, x.d, l, e, x.want, x.code)
	}
}

// K2, K3: how many counts there may be; a time that both have is one, and none where it comes to nothing.
func TestHowMany(t *testing.T) {
	for n := range many + 1 {
		for m := range many + 1 {
			c, d := apart(0, n), apart(n, m)
			es := tellsBoth(t, c, d)
			want := api.OK
			if n+m > many {
				want = api.ErrLarge
			}
			if es != [2]api.Errno{want, want} {
				t.Fatal(n, m, es)
			}
		}
		for _, d := range [][]api.Count{apart(0, many), with(apart(0, many), -1), apart(n, many), with(apart(n, many), -1)} {
			tellsBoth(t, apart(0, many), d)
		}
	}
	// That a count would be too great is told ahead of that there would be too many.
	c, d := with(apart(0, many), most), with(apart(many-1, many), most)
	if es := tellsBoth(t, c, d); es != [2]api.Errno{api.ErrOver, api.ErrLarge} {
		t.Error(es)
	}
	// And that there are too many is told only of what is left in the end.
	c, d = with(apart(0, many), 1), append(with(apart(1, many-1), -1), apart(many, 1)...)
	if l, e := Sum(c, d); e != api.OK || !same(l, []api.Count{of(1, 0, top), of(1, many, top-many)}) {
		t.Error(l, e)
	}
}

// K2: Sum doesn't ask which comes first, has a way back, and is Add of all counts, one by one.
func TestLawsOfSums(t *testing.T) {
	d := draws(5)
	for round := range 2000 {
		deep := 1 + round%4
		a, b := d.tally(20, deep, 4), d.tally(20, deep, 4)
		sum, e := Sum(a, b)
		if e == api.ErrOver {
			continue
		}
		back, e2 := Sum(b, a)
		tells(t, "Sum", b, a, back, e2, sum, e)
		against := slices.Clone(b)
		for i := range against {
			against[i].N = -against[i].N
		}
		back, e = Sum(sum, against)
		tells(t, "Sum", sum, against, back, e, a, api.OK)
		for _, x := range b {
			if a, e = Add(a, x.Time, x.N); e != api.OK || Check(a) != api.OK {
				t.Fatal(a, x, e)
			}
		}
		tells(t, "Add", nil, b, a, e, sum, api.OK)
	}
}
