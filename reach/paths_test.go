package reach

import (
	"testing"

	"watershed/api"
	"watershed/graph"
	"watershed/summary"
)

// tellsPaths holds what Paths tells, without a fault, against all ways.
func tellsPaths(t *testing.T, g api.Graph) [][]api.Summary {
	t.Helper()
	l, f := Paths(g)
	n := len(g.Nodes)
	if f != (api.Fault{}) || len(l) != n*n {
		t.Fatal(g, l, f)
	}
	for a := range n {
		for b, want := range pathsOf(t, g, a) {
			if !samePaths(l[a*n+b], want) {
				t.Fatal(g, a, b, l[a*n+b], want)
			}
		}
	}
	return l
}

// J1: all that is told of a loop.
func TestPathsOfLoop(t *testing.T) {
	keep, in, out := of(1, 0), of(1, 0, 0), of(1, 0)
	stay, round := of(2, 0), of(2, 1)
	l := tellsPaths(t, looped())
	for b, row := range [][]*api.Summary{
		{&keep, nil, nil, nil, nil, nil},
		{&keep, &keep, nil, nil, nil, nil},
		{&in, &in, &stay, &round, nil, nil},
		{&in, &in, &stay, &stay, nil, nil},
		{&in, &in, &stay, &round, &stay, nil},
		{&out, &out, &out, &out, &out, &out},
	} {
		for a, want := range row {
			got := l[a*6+b]
			if want == nil && len(got) != 0 || want != nil && !samePaths(got, []api.Summary{*want}) {
				t.Error(a, b, got)
			}
		}
	}
}

// J1: what is said of graphs one by one.
func TestPathsByHand(t *testing.T) {
	for _, x := range []struct {
		g    api.Graph
		a, b int
		want []api.Summary
	}{
		// An empty way goes from a node to itself, and keeps the time.
		{graphOf([]api.Node{input}), 0, 0, []api.Summary{of(1, 0)}},
		{graphOf([]api.Node{input, input}), 0, 1, nil},
		// An edge goes one way alone; what the node does to which a way goes isn't done.
		{graphOf([]api.Node{input, enter(1)}, nil, []int{0}), 0, 1, []api.Summary{of(1, 0)}},
		{graphOf([]api.Node{input, enter(1)}, nil, []int{0}), 1, 1, []api.Summary{of(1, 0)}},
		{graphOf([]api.Node{input, enter(1)}, nil, []int{0}), 1, 0, nil},
		{graphOf([]api.Node{input, enter(1), one(2)}, nil, []int{0}, []int{1}), 0, 2, []api.Summary{of(1, 0, 0)}},
		// A ring round one node, of which the way round it brings nothing new.
		{graphOf([]api.Node{feed(4)}, []int{0}), 0, 0, []api.Summary{of(4, 0)}},
		// Of two ways just the one is told that is Leq to the other: it comes no later.
		{graphOf([]api.Node{input, enter(1), feed(2), two(2)}, nil, []int{0}, []int{1}, []int{2, 1}), 0, 3, []api.Summary{of(1, 0, 0)}},
		{graphOf([]api.Node{input, enter(1), feed(2), two(2)}, nil, []int{0}, []int{1}, []int{2, 1}), 2, 3, []api.Summary{of(2, 1)}},
		{graphOf([]api.Node{feed(2), feed(2), two(2)}, []int{2}, []int{0}, []int{0, 1}), 0, 2, []api.Summary{of(2, 1)}},
		{graphOf([]api.Node{feed(2), feed(2), one(2)}, []int{2}, []int{0}, []int{1}), 0, 2, []api.Summary{of(2, 2)}},
		// Two edges from the same node to the same one.
		{graphOf([]api.Node{input, two(1)}, nil, []int{0, 0}), 0, 1, []api.Summary{of(1, 0)}},
		// What is added within a loop, and left.
		{graphOf([]api.Node{input, enter(1), feed(2), leave(2), one(1)}, nil, []int{0}, []int{1}, []int{2}, []int{3}), 0, 4, []api.Summary{of(1, 0)}},
		// Within two loops: both go on, or the outer one goes round, and the inner one begins anew.
		{nested(), 0, 4, []api.Summary{of(1, 0, 0, 0)}},
		{nested(), 2, 4, []api.Summary{of(2, 0, 0)}},
		{nested(), 4, 2, []api.Summary{of(2, 1)}},
		{nested(), 4, 4, []api.Summary{of(2, 1, 0), of(3, 0)}},
		{nested(), 4, 5, []api.Summary{of(2, 1, 0), of(3, 0)}},
		{nested(), 5, 4, []api.Summary{of(2, 1, 0), of(3, 1)}},
		{nested(), 6, 6, []api.Summary{of(2, 1, 0), of(3, 0)}},
		{nested(), 6, 3, []api.Summary{of(2, 1)}},
		{nested(), 4, 8, []api.Summary{of(2, 0)}},
		{nested(), 7, 7, []api.Summary{of(2, 0)}},
		{nested(), 8, 7, nil},
		// Within three: the way round the outermost one comes to node 0 for the third time.
		{deepest(), 0, 0, []api.Summary{of(2, 1, 0, 0), of(3, 1, 0), of(4, 0)}},
		{deepest(), 1, 0, []api.Summary{of(2, 1, 0, 0), of(3, 1, 0), of(4, 1)}},
		{deepest(), 3, 0, []api.Summary{of(2, 1, 0, 0), of(3, 1, 0)}},
		{deepest(), 7, 0, []api.Summary{of(2, 1, 0, 0)}},
		{deepest(), 0, 7, []api.Summary{of(2, 0)}},
		{deepest(), 0, 4, []api.Summary{of(2, 1, 0), of(3, 1)}},
	} {
		if got := tellsPaths(t, x.g)[x.a*len(x.g.Nodes)+x.b]; !samePaths(got, x.want) {
			t.Error(x.g, x.a, x.b, got)
		}
	}
}

// J1: two ways of which neither comes later: one adds outside, one inside.
func TestPathsApart(t *testing.T) {
	g := graphOf([]api.Node{input, enter(1), feed(2), enter(2), enter(2), feed(3), two(3)}, nil, []int{0}, []int{1}, []int{2}, []int{1}, []int{4}, []int{3, 5})
	if got := tellsPaths(t, g)[6]; !samePaths(got, []api.Summary{of(1, 0, 0, 1), of(1, 0, 1, 0)}) {
		t.Error(got)
	}
}

// J1: that a graph is empty is no fault.
func TestPathsOfNothing(t *testing.T) {
	for _, g := range []api.Graph{{}, {Nodes: []api.Node{}, Edges: []api.Edge{}}} {
		if l, f := Paths(g); len(l) != 0 || f != (api.Fault{}) {
			t.Error(l, f)
		}
	}
}

// J1: the errors are Check's, with their places, and beside them nothing is told.
func TestPathsOfFaults(t *testing.T) {
	graphs, faults := faulty()
	for i, g := range graphs {
		if l, f := Paths(g); f != faults[i] || len(l) != 0 {
			t.Error(g, l, f)
		}
	}
}

// J1: all graphs of three nodes that are in a loop, or outside it.
func TestPathsOfThreeNodes(t *testing.T) {
	seen := 0
	kinds := []api.Node{input, two(1), enter(1), one(2), two(2), feed(2), leave(2), enter(2), two(3), feed(3), leave(3)}
	for _, x := range kinds {
		for _, y := range kinds {
			for _, z := range kinds {
				wired([]api.Node{x, y, z}, func(g api.Graph) {
					tellsPaths(t, g)
					seen++
				})
			}
		}
	}
	if seen < 300 {
		t.Error("not all kinds are seen", seen)
	}
}

// J1: all graphs of nodes that make a loop within a loop.
func TestPathsOfSixNodes(t *testing.T) {
	seen := map[int]int{}
	for _, nodes := range [][]api.Node{
		{two(2), enter(2), two(3), feed(3), leave(3), feed(2)},
		{feed(3), enter(3), two(4), feed(4), leave(4), two(3)},
	} {
		wired(nodes, func(g api.Graph) {
			for _, list := range tellsPaths(t, g) {
				seen[len(list)]++
			}
		})
	}
	if seen[0] < 100 || seen[1] < 1000 || seen[2] < 1000 {
		t.Error("not all kinds are seen", seen)
	}
}

// J1: mixed graphs of up to ten nodes.
func TestPathsOfMixedGraphs(t *testing.T) {
	d := draws(2)
	for range 300 {
		tellsPaths(t, d.good(10))
	}
}

// below tells if one of a list is Leq to a summary.
func below(l []api.Summary, s api.Summary) bool {
	for _, r := range l {
		if summary.Leq(r, s) {
			return true
		}
	}
	return false
}

// oneMore tells if a summary is what a way does that is told, with one more edge, to node b.
func oneMore(g api.Graph, row [][]api.Summary, b int, s api.Summary) bool {
	for _, e := range g.Edges {
		sum, _ := graph.Sum(g.Nodes[e.From])
		for _, r := range row[e.From] {
			if does, e1 := summary.Then(r, sum); e.To == b && e1 == api.OK && alike(does, s) {
				return true
			}
		}
	}
	return false
}

// J1: of graphs up to the limits: what any way does, edge by edge, has one told that is Leq to it; each one that is told is done by
// a way; none is Leq to another; and they stand in their order.
func TestPathsLaws(t *testing.T) {
	d := draws(8)
	seen := map[int]int{}
	for range 1500 {
		g := d.good(12)
		n := len(g.Nodes)
		l, f := Paths(g)
		if f != (api.Fault{}) || len(l) != n*n {
			t.Fatal(g, l, f)
		}
		for a := range n {
			row, empty := l[a*n:a*n+n], of(g.Nodes[a].Deep, 0)
			if !below(row[a], empty) {
				t.Fatal(g, a, row[a])
			}
			for _, e := range g.Edges {
				sum, _ := graph.Sum(g.Nodes[e.From])
				for _, s := range row[e.From] {
					if does, e1 := summary.Then(s, sum); e1 != api.OK || !below(row[e.To], does) {
						t.Fatal(g, a, e, s)
					}
				}
			}
			for b, list := range row {
				seen[len(list)]++
				if !samePaths(list, frontOf(list, summary.Leq, compare)) {
					t.Fatal(g, a, b, list)
				}
				for _, s := range list {
					if !(a == b && alike(s, empty)) && !oneMore(g, row, b, s) {
						t.Fatal(g, a, b, s)
					}
				}
			}
		}
	}
	for n := range 4 {
		if seen[n] < 10 {
			t.Error("not all kinds are seen", seen)
		}
	}
}
