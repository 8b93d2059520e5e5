package reach

import (
	"slices"
	"testing"

	"watershed/api"
)

// tellsFronts holds what Fronts tells, without an error, against the fronts that it must tell.
func tellsFronts(t *testing.T, g api.Graph, l []api.Stamp, want [][][]int) {
	t.Helper()
	if f, e := Fronts(g, l); e != api.OK || !sameFronts(f, want) {
		t.Fatal(g, l, f, e, want)
	}
}

// refuses holds what Fronts tells against the error that it must tell, with nothing beside it.
func refuses(t *testing.T, g api.Graph, l []api.Stamp, want api.Errno) {
	t.Helper()
	if f, e := Fronts(g, l); e != want || len(f) != 0 {
		t.Fatal(g, l, f, e, want)
	}
}

// J3: what is said of stamps one by one.
func TestFrontsByHand(t *testing.T) {
	for _, x := range []struct {
		g    api.Graph
		l    []api.Stamp
		want [][][]int
	}{
		{api.Graph{}, nil, nil},
		{looped(), nil, make([][][]int, 6)},
		{looped(), []api.Stamp{}, make([][][]int, 6)},
		{looped(), []api.Stamp{at(0, 5)}, [][][]int{{{5}}, {{5}}, {{5, 0}}, {{5, 0}}, {{5, 0}}, {{5}}}},
		{looped(), []api.Stamp{at(3, 5, 4)}, [][][]int{nil, nil, {{5, 5}}, {{5, 4}}, {{5, 5}}, {{5}}}},
		{looped(), []api.Stamp{at(5, 5)}, [][][]int{nil, nil, nil, nil, nil, {{5}}}},
		{looped(), []api.Stamp{at(0, 5), at(2, 1, 7)}, [][][]int{{{5}}, {{5}}, {{1, 7}, {5, 0}}, {{1, 7}, {5, 0}}, {{1, 7}, {5, 0}}, {{1}}}},
		{looped(), []api.Stamp{at(0, 5), at(2, 5, 7)}, [][][]int{{{5}}, {{5}}, {{5, 0}}, {{5, 0}}, {{5, 0}}, {{5}}}},
		{looped(), []api.Stamp{at(0, 5), at(0, 3), at(0, 5)}, [][][]int{{{3}}, {{3}}, {{3, 0}}, {{3, 0}}, {{3, 0}}, {{3}}}},
		{looped(), []api.Stamp{at(3, 5, 4), at(4, 6, 1), at(3, 6, 3)}, [][][]int{nil, nil, {{5, 5}, {6, 4}}, {{5, 4}, {6, 3}}, {{5, 5}, {6, 1}}, {{5}}}},
		// The outer loop goes round, and the inner one begins anew: of one stamp two times come.
		{
			nested(), []api.Stamp{at(5, 3, 2, 7)},
			[][][]int{nil, nil, {{3, 3}}, {{3, 3}}, {{3, 2, 8}, {3, 3, 0}}, {{3, 2, 7}, {3, 3, 0}}, {{3, 2, 8}, {3, 3, 0}}, {{3, 2}}, {{3, 2}}},
		},
		{
			nested(), []api.Stamp{at(8, 0, 1), at(4, 2, 0, 0)},
			[][][]int{nil, nil, {{2, 1}}, {{2, 1}}, {{2, 0, 0}}, {{2, 0, 0}}, {{2, 0, 0}}, {{2, 0}}, {{0, 1}, {2, 0}}},
		},
		// What would be above MaxCoord doesn't come.
		{looped(), []api.Stamp{at(3, 5, top)}, [][][]int{nil, nil, nil, {{5, top}}, nil, {{5}}}},
		{looped(), []api.Stamp{at(3, 5, top), at(2, 6, 1)}, [][][]int{nil, nil, {{6, 1}}, {{5, top}, {6, 1}}, {{6, 1}}, {{5}}}},
		{
			nested(), []api.Stamp{at(5, 3, top, 7)},
			[][][]int{nil, nil, nil, nil, {{3, top, 8}}, {{3, top, 7}}, {{3, top, 8}}, {{3, top}}, {{3, top}}},
		},
		{
			nested(), []api.Stamp{at(5, 3, 2, top)},
			[][][]int{nil, nil, {{3, 3}}, {{3, 3}}, {{3, 3, 0}}, {{3, 2, top}, {3, 3, 0}}, {{3, 3, 0}}, {{3, 2}}, {{3, 2}}},
		},
	} {
		tellsFronts(t, x.g, x.l, x.want)
	}
}

// apart are n stamps in the inner loop, of which none brings what another one does, also when the outer loop has gone round.
func apart(n int) []api.Stamp {
	var l []api.Stamp
	for i := range n {
		l = append(l, at(4, i, n-1-i, 5))
	}
	return l
}

// apartFront is what comes of them where they are.
func apartFront(n int) [][]int {
	var front [][]int
	for i := range n {
		front = append(front, []int{i, n - 1 - i, 5}, []int{i, n - i, 0})
	}
	return front
}

// J3: as many stamps as may be; fronts may have more times than MaxTimes.
func TestFrontsOfMany(t *testing.T) {
	l := apart(many)
	slices.Reverse(l)
	f, e := Fronts(nested(), l)
	if e != api.OK || len(f) != 9 || len(f[4]) != 128 || !same(f[4], apartFront(many)) || !same(f[6], f[4]) || len(f[8]) != 64 {
		t.Error(f, e)
	}
	tellsFronts(t, nested(), l, frontsOf(nested(), l))
	tellsFronts(t, looped(), slices.Repeat([]api.Stamp{at(0, 7)}, many), frontsOf(looped(), []api.Stamp{at(0, 7)}))
}

// J3: more stamps than may be are told ahead of what is wrong with one.
func TestFrontsOfTooMany(t *testing.T) {
	refuses(t, nested(), apart(many+1), api.ErrLarge)
	refuses(t, looped(), slices.Repeat([]api.Stamp{at(0, 7)}, many+1), api.ErrLarge)
	refuses(t, looped(), slices.Repeat([]api.Stamp{at(-1)}, many+1), api.ErrLarge)
	refuses(t, looped(), make([]api.Stamp, 1000), api.ErrLarge)
	refuses(t, api.Graph{}, make([]api.Stamp, many+1), api.ErrLarge)
	refuses(t, api.Graph{}, make([]api.Stamp, many), api.ErrArg)
}

// J3: the first stamp's error is told that has one, wherever it stands.
func TestFrontsOfWrongStamps(t *testing.T) {
	for _, x := range wrongStamps() {
		refuses(t, looped(), []api.Stamp{x.stamp}, x.want)
		refuses(t, looped(), []api.Stamp{at(0, 0), x.stamp, at(0, 0)}, x.want)
		refuses(t, looped(), append(slices.Repeat([]api.Stamp{at(2, 0, 0)}, many-1), x.stamp), x.want)
		for _, y := range wrongStamps() {
			refuses(t, looped(), []api.Stamp{at(2, 1, 1), x.stamp, y.stamp}, x.want)
		}
	}
}

// J3: the code of Check's fault is told ahead of all that is wrong with stamps.
func TestFrontsOfFaults(t *testing.T) {
	graphs, faults := faulty()
	for i, g := range graphs {
		for _, l := range [][]api.Stamp{nil, {at(2, 0, 0)}, {at(-1)}, {at(2, 0)}, make([]api.Stamp, many+1)} {
			refuses(t, g, l, faults[i].Code)
		}
	}
}

// J3: mixed graphs and stamps; what comes is what comes edge by edge.
func TestFrontsOfMixedGraphs(t *testing.T) {
	d := draws(4)
	seen := map[int]int{}
	for range 300 {
		g := d.good(9)
		for range 3 {
			l := d.stamps(g, 5, 4)
			want := frontsOf(g, l)
			tellsFronts(t, g, l, want)
			for _, front := range want {
				seen[len(front)]++
			}
		}
	}
	for n := range 4 {
		if seen[n] < 10 {
			t.Error("not all kinds are seen", seen)
		}
	}
}

// J2, J3: what could come to a time is what a front is open for, of one stamp by Could, of several by Fronts.
func TestFrontsByCould(t *testing.T) {
	d := draws(3)
	seen := map[bool]int{}
	for range 500 {
		g := d.good(12)
		l, to := d.stamps(g, 4, 3), d.stamp(g, 4)
		f, e := Fronts(g, l)
		if e != api.OK || len(f) != len(g.Nodes) {
			t.Fatal(g, l, f, e)
		}
		want := slices.ContainsFunc(l, func(from api.Stamp) bool {
			is, _ := Could(g, from, to)
			return is
		})
		if is := slices.ContainsFunc(f[to.At], func(time []int) bool { return leqOf(time, to.Time) }); is != want {
			t.Fatal(g, l, to, f)
		}
		seen[want]++
	}
	if seen[true] < 50 || seen[false] < 50 {
		t.Error("not all kinds are seen", seen)
	}
}
