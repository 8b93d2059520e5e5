package reach

import (
	"math"
	"slices"
	"testing"

	"watershed/api"
	"watershed/summary"
)

// J2: what is said of stamps one by one.
func TestCouldByHand(t *testing.T) {
	for _, x := range []struct {
		g        api.Graph
		from, to api.Stamp
		want     bool
	}{
		// The chapter's example.
		{looped(), at(2, 3, 2), at(2, 3, 2), true},
		{looped(), at(2, 3, 2), at(2, 3, 3), true},
		{looped(), at(2, 3, 2), at(2, 4, 2), true},
		{looped(), at(2, 3, 2), at(2, 9, 9), true},
		{looped(), at(2, 3, 2), at(2, 3, 1), false},
		{looped(), at(2, 3, 2), at(2, 2, 9), false},
		{looped(), at(2, 3, 2), at(2, 4, 1), false},
		// What an NFeed takes comes back one later.
		{looped(), at(3, 3, 2), at(3, 3, 2), true},
		{looped(), at(3, 3, 2), at(2, 3, 2), false},
		{looped(), at(3, 3, 2), at(2, 3, 3), true},
		{looped(), at(3, 3, 2), at(4, 3, 2), false},
		{looped(), at(3, 3, 2), at(4, 3, 3), true},
		// Into the loop, at any number of rounds; and out of it, whatever the round.
		{looped(), at(0, 3), at(2, 3, 0), true},
		{looped(), at(0, 3), at(2, 2, 9), false},
		{looped(), at(0, 3), at(5, 3), true},
		{looped(), at(0, 3), at(5, 2), false},
		{looped(), at(2, 3, 7), at(5, 3), true},
		{looped(), at(2, 3, 0), at(5, 2), false},
		// There is no way.
		{looped(), at(2, 0, 0), at(0, 9), false},
		{looped(), at(5, 0), at(4, 9, 9), false},
		{looped(), at(4, 0, 0), at(2, 9, 9), false},
		{graphOf([]api.Node{input, input}), at(0, 0), at(1, 0), false},
		{graphOf([]api.Node{input, input}), at(1, 4), at(1, 4), true},
		{graphOf([]api.Node{input, input}), at(1, 4), at(1, 3), false},
		// The outer loop goes round, and the inner one begins anew.
		{nested(), at(4, 3, 2, 7), at(4, 3, 2, 7), true},
		{nested(), at(4, 3, 2, 7), at(4, 3, 2, 6), false},
		{nested(), at(4, 3, 2, 7), at(4, 3, 3, 0), true},
		{nested(), at(4, 3, 2, 7), at(4, 4, 2, 6), false},
		{deepest(), at(0, 3, 2, 7, 5), at(0, 3, 2, 8, 0), true},
		{deepest(), at(0, 3, 2, 7, 5), at(0, 3, 3, 0, 0), true},
		{deepest(), at(0, 3, 2, 7, 5), at(0, 4, 2, 7, 4), false},
		{deepest(), at(0, 3, 2, 7, 5), at(0, 4, 2, 6, 9), false},
	} {
		if is, e := Could(x.g, x.from, x.to); e != api.OK || is != x.want {
			t.Error(x.from, x.to, is, e)
		}
	}
}

// J2: what Apply refuses, as a number would be above MaxCoord, does not come.
func TestCouldBeyond(t *testing.T) {
	inner := graphOf([]api.Node{feed(2), leave(2), one(1)}, []int{0}, []int{0}, []int{1})
	for _, x := range []struct {
		g        api.Graph
		from, to api.Stamp
		want     bool
	}{
		{looped(), at(3, 3, top), at(3, 3, top), true},
		{looped(), at(3, 3, top), at(2, 3, top), false},
		{looped(), at(3, 3, top), at(2, top, top), false},
		{looped(), at(3, 3, top), at(4, 3, top), false},
		{looped(), at(3, 3, top-1), at(2, 3, top), true},
		{looped(), at(3, 3, top-1), at(2, 3, top-1), false},
		{looped(), at(2, 3, top), at(2, 3, top), true},
		{looped(), at(2, top, top), at(5, top), true},
		// Of the two ways to it one is refused, be it the one or the other.
		{nested(), at(5, 3, top, 2), at(4, 3, top, 3), true},
		{nested(), at(5, 3, top, 2), at(4, top, top, 2), false},
		{nested(), at(5, 3, 2, top), at(4, 3, 3, 0), true},
		{nested(), at(5, 3, 2, top), at(4, top, 2, top), false},
		{nested(), at(5, 3, top, top), at(4, top, top, top), false},
		{nested(), at(5, 3, top, top), at(5, 3, top, top), true},
		// The way as a whole drops the number to which it adds: so nothing is refused, as of it there is no number above MaxCoord.
		{inner, at(0, 3, top), at(2, 3), true},
		{inner, at(0, 3, top), at(1, 3, top), false},
	} {
		if is, e := Could(x.g, x.from, x.to); e != api.OK || is != x.want {
			t.Error(x.from, x.to, is, e)
		}
	}
}

// A wrongStamp is one with what is wrong with it.
type wrongStamp struct {
	stamp api.Stamp
	want  api.Errno
}

// wrongStamps are wrong at a loop, each by one thing, or by several of which the first is told.
func wrongStamps() []wrongStamp {
	list := []wrongStamp{
		{at(2, []int{}...), api.ErrLarge},
		{at(2, 1, 2, 3, 4, 5), api.ErrLarge},
		{at(2, make([]int, 1000)...), api.ErrLarge},
		{at(2, -1, -1, -1, -1, -1), api.ErrLarge},
		{at(2, -1, 0), api.ErrArg},
		{at(2, 0, -1), api.ErrArg},
		{at(2, 0, top+1), api.ErrArg},
		{at(2, math.MinInt, 0), api.ErrArg},
		{at(2, 0, math.MaxInt), api.ErrArg},
		{at(2, -1), api.ErrArg},
		{at(0, 1, top+1), api.ErrArg},
		{at(2, 3), api.ErrScope},
		{at(2, 3, 1, 1), api.ErrScope},
		{at(2, 3, 1, 1, 1), api.ErrScope},
		{at(0, 3, 1), api.ErrScope},
		{at(1, 3, 1), api.ErrScope},
		{at(4, 3), api.ErrScope},
		{at(5, 3, 0), api.ErrScope},
	}
	for _, node := range []int{math.MinInt, -2, -1, 6, 7, 12, 1 << 32, math.MaxInt} {
		list = append(list, wrongStamp{at(node, 0), api.ErrArg}, wrongStamp{at(node, 0, 0), api.ErrArg})
		list = append(list, wrongStamp{at(node), api.ErrArg}, wrongStamp{at(node, 0, 0, 0, 0, 0), api.ErrArg})
	}
	return list
}

// J2: the errors of a stamp; from's are told ahead of to's, and beside them nothing is told.
func TestCouldOfWrongStamps(t *testing.T) {
	right := at(2, 0, 0)
	for _, x := range wrongStamps() {
		if is, e := Could(looped(), x.stamp, right); e != x.want || is {
			t.Error(x.stamp, is, e)
		}
		if is, e := Could(looped(), right, x.stamp); e != x.want || is {
			t.Error(x.stamp, is, e)
		}
		for _, y := range wrongStamps() {
			if is, e := Could(looped(), x.stamp, y.stamp); e != x.want || is {
				t.Error(x.stamp, y.stamp, is, e)
			}
		}
	}
}

// J2: at an empty graph there is no stamp.
func TestCouldOfNothing(t *testing.T) {
	if is, e := Could(api.Graph{}, at(0, 0), at(0, 0)); e != api.ErrArg || is {
		t.Error(is, e)
	}
}

// J2: the code of Check's fault is told ahead of what is wrong with stamps.
func TestCouldOfFaults(t *testing.T) {
	graphs, faults := faulty()
	for i, g := range graphs {
		for _, s := range []api.Stamp{at(2, 0, 0), at(-1), at(2, -1), at(2, 0)} {
			if is, e := Could(g, s, s); e != faults[i].Code || is {
				t.Error(g, s, is, e)
			}
		}
	}
}

// J2: mixed graphs; a stamp could result in another one just if a time that is Leq to it comes, edge by edge.
func TestCouldOfMixedGraphs(t *testing.T) {
	d := draws(5)
	seen := map[bool]int{}
	for range 400 {
		g := d.good(9)
		for range 6 {
			from := d.stamp(g, 3)
			came := comesOf(g, from)
			for range 12 {
				to := d.stamp(g, 4)
				// Most stamps that are drawn lie far from all that comes: so it is one that comes, or one beside it.
				if list := came[to.At]; len(list) > 0 && d.to(4) > 0 {
					to.Time = slices.Clone(list[d.to(len(list))])
					i := d.to(len(to.Time))
					to.Time[i] = max(0, to.Time[i]+d.to(3)-1)
				}
				is, e := Could(g, from, to)
				if e != api.OK || is != slices.ContainsFunc(came[to.At], func(time []int) bool { return leqOf(time, to.Time) }) {
					t.Fatal(g, from, to, is, e)
				}
				seen[is]++
			}
		}
	}
	if seen[true] < 1000 || seen[false] < 1000 {
		t.Error("not all kinds are seen", seen)
	}
}

// J2: also with numbers as great as may be, what could come is what one of Paths makes.
func TestCouldByPaths(t *testing.T) {
	d := draws(6)
	seen := map[api.Errno]int{}
	for range 2000 {
		g := d.good(12)
		from, to := d.stamp(g, 3), d.stamp(g, 3)
		for _, time := range [][]int{from.Time, to.Time} {
			for i := range time {
				if d.to(3) > 0 {
					time[i] = top - time[i]
				}
			}
		}
		l, _ := Paths(g)
		want := false
		for _, s := range l[from.At*len(g.Nodes)+to.At] {
			made, e := summary.Apply(s, from.Time)
			want = want || e == api.OK && leqOf(made, to.Time)
			seen[e]++
		}
		if is, e := Could(g, from, to); e != api.OK || is != want {
			t.Fatal(g, from, to, is, e)
		}
	}
	if seen[api.OK] < 100 || seen[api.ErrOver] < 20 || len(seen) != 2 {
		t.Error("not all kinds are seen", seen)
	}
}
