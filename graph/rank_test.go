package graph

import (
	"slices"
	"testing"

	"watershed/api"
)

// I3: what is said of graphs one by one.
func TestRankByHand(t *testing.T) {
	for _, x := range []struct {
		g    api.Graph
		want []int
	}{
		{api.Graph{}, nil},
		{looped(), []int{0, 1, 2, 3, 4}},
		{nested(), []int{0, 1, 2, 3, 4, 5, 6, 7, 8}},
		{full(), []int{0, 1, 2, 3, 4, 5, 6, 7, 8, 9, 10, 11}},
		// Each time the least one that may come, not the one that has waited, nor the ones without edges first.
		{graphOf([]api.Node{one(1), input, input}, []int{1}), []int{1, 0, 2}},
		{graphOf([]api.Node{one(1), input, input}, []int{2}), []int{1, 2, 0}},
		{graphOf([]api.Node{two(1), one(1), input, input}, []int{2, 3}, []int{3}), []int{2, 3, 0, 1}},
		{graphOf([]api.Node{one(1), one(1), input, one(1)}, []int{3}, []int{2}, nil, []int{2}), []int{2, 1, 3, 0}},
		{graphOf([]api.Node{one(1), one(1), one(1), input}, []int{1}, []int{2}, []int{3}), []int{3, 2, 1, 0}},
		// An NFeed is behind the node that it comes from, what comes from it isn't behind it.
		{graphOf([]api.Node{feed(2)}, []int{0}), []int{0}},
		{graphOf([]api.Node{feed(2), feed(2)}, []int{1}, []int{0}), []int{0, 1}},
		{graphOf([]api.Node{one(2), feed(2)}, []int{1}, []int{0}), []int{0, 1}},
		{graphOf([]api.Node{feed(2), one(2)}, []int{1}, []int{0}), []int{1, 0}},
		{graphOf([]api.Node{feed(2), two(2), enter(1), input}, []int{1}, []int{0, 2}, []int{3}, nil), []int{3, 2, 1, 0}},
		{graphOf([]api.Node{leave(2), two(2), feed(2)}, []int{1}, []int{2, 2}, []int{1}), []int{1, 0, 2}},
		// A way by an NFeed puts nobody behind anybody.
		{graphOf([]api.Node{one(2), feed(2), two(2)}, []int{1}, []int{2}, []int{0, 0}), []int{0, 2, 1}},
	} {
		l, f := Rank(x.g)
		if f != (api.Fault{}) || !slices.Equal(l, x.want) {
			t.Error(x.g, l, f)
		}
		tells(t, x.g)
	}
}

// I3: the errors are Check's, with their places, and beside them nothing is told.
func TestRankOfWrong(t *testing.T) {
	open := looped()
	open.Edges = open.Edges[:4]
	twice := looped()
	twice.Edges[3] = twice.Edges[2]
	for _, x := range []struct {
		g    api.Graph
		want api.Fault
	}{
		{api.Graph{Nodes: make([]api.Node, 13)}, fault(api.ErrLarge, 0)},
		{with(looped(), 4, api.Node{}), fault(api.ErrArg, 4)},
		{twice, fault(api.ErrPort, 3)},
		{with(looped(), 4, leave(3)), fault(api.ErrScope, 4)},
		{open, fault(api.ErrNone, 4)},
		{with(looped(), 3, one(2)), fault(api.ErrLoop, 2)},
	} {
		if l, f := Rank(x.g); f != x.want || len(l) != 0 {
			t.Error(x.g, l, f)
		}
	}
}

// I3: by each edge that isn't an NFeed's, the node that it goes to stands behind the one that it comes from; and no node could
// have come at the place of a greater one ahead of it.
func TestRankLaws(t *testing.T) {
	d := draws(3)
	seen := 0
	for seen < 1000 {
		g := d.graph(manyNodes-d.to(3), 8)
		l, f := Rank(g)
		if f.Code != api.OK {
			continue
		}
		seen++
		ahead := func(a, b int) bool { return slices.Index(l, a) < slices.Index(l, b) }
		counted := func(e api.Edge) bool { return g.Nodes[e.From].Kind != api.NFeed }
		for _, e := range g.Edges {
			if counted(e) && !ahead(e.From, e.To) {
				t.Fatal(g, l)
			}
		}
		for i := 1; i < len(l); i++ {
			needed := func(e api.Edge) bool { return counted(e) && e.From == l[i-1] && e.To == l[i] }
			if l[i] < l[i-1] && !slices.ContainsFunc(g.Edges, needed) {
				t.Fatal(g, l)
			}
		}
		if sorted := slices.Sorted(slices.Values(l)); len(l) != len(g.Nodes) || len(slices.Compact(sorted)) != len(l) {
			t.Fatal(g, l)
		}
	}
}
