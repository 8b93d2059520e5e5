package graph

import (
	"testing"

	"watershed/api"
)

// nested has a loop within a loop.
func nested() api.Graph {
	nodes := []api.Node{input, enter(1), two(2), enter(2), two(3), feed(3), leave(3), feed(2), leave(2)}
	return graphOf(nodes, nil, []int{0}, []int{1, 7}, []int{2}, []int{3, 5}, []int{4}, []int{4}, []int{6}, []int{6})
}

// with is a graph with another node at a place.
func with(g api.Graph, i int, x api.Node) api.Graph {
	g.Nodes[i] = x
	return g
}

// I2: what is said of rings one by one.
func TestRingsByHand(t *testing.T) {
	for _, x := range []struct {
		g    api.Graph
		want api.Fault
	}{
		// The chapter's example.
		{looped(), api.Fault{}},
		{with(looped(), 3, one(2)), fault(api.ErrLoop, 2)},
		// A node with an edge to itself.
		{graphOf([]api.Node{feed(2)}, []int{0}), api.Fault{}},
		{graphOf([]api.Node{feed(4)}, []int{0}), api.Fault{}},
		{graphOf([]api.Node{one(1)}, []int{0}), fault(api.ErrLoop, 0)},
		{graphOf([]api.Node{one(4)}, []int{0}), fault(api.ErrLoop, 0)},
		{graphOf([]api.Node{input, two(1)}, nil, []int{0, 1}), fault(api.ErrLoop, 1)},
		{graphOf([]api.Node{two(2)}, []int{0, 0}), fault(api.ErrLoop, 0)},
		// What is left and entered again stands still at the times that it has outside: no NFeed inside mends that.
		{graphOf([]api.Node{enter(1), leave(2)}, []int{1}, []int{0}), fault(api.ErrLoop, 0)},
		{graphOf([]api.Node{enter(1), feed(2), leave(2)}, []int{2}, []int{0}, []int{1}), fault(api.ErrLoop, 0)},
		{graphOf([]api.Node{feed(3), enter(2), leave(3)}, []int{1}, []int{2}, []int{0}), fault(api.ErrLoop, 0)},
		{graphOf([]api.Node{enter(2), feed(3), leave(3), feed(2)}, []int{3}, []int{0}, []int{1}, []int{2}), api.Fault{}},
		{graphOf([]api.Node{enter(2), leave(3), feed(2)}, []int{2}, []int{0}, []int{1}), api.Fault{}},
		// Two NFeeds, or one beside others with the least Deep.
		{graphOf([]api.Node{feed(2), feed(2)}, []int{1}, []int{0}), api.Fault{}},
		{graphOf([]api.Node{one(3), feed(3), one(3)}, []int{2}, []int{0}, []int{1}), api.Fault{}},
		// A loop within a loop, and what comes without the one NFeed, or the other.
		{nested(), api.Fault{}},
		{with(nested(), 5, one(3)), fault(api.ErrLoop, 4)},
		{with(nested(), 7, one(2)), fault(api.ErrLoop, 2)},
		// Two rings by one node, one of them bad: a ring round both has an NFeed.
		{graphOf([]api.Node{feed(2), one(2), two(2)}, []int{2}, []int{2}, []int{0, 1}), fault(api.ErrLoop, 1)},
		// Node 0 is on a bad ring just because 1 may come twice on it.
		{graphOf([]api.Node{feed(3), two(3), leave(3), enter(2)}, []int{1}, []int{0, 3}, []int{1}, []int{2}), fault(api.ErrLoop, 0)},
		// A bad ring goes on to one that isn't, and comes from one that isn't.
		{graphOf([]api.Node{feed(2), two(2), one(2)}, []int{1}, []int{0, 2}, []int{2}), fault(api.ErrLoop, 2)},
		{graphOf([]api.Node{feed(2), one(2), two(2)}, []int{1}, []int{0}, []int{2, 0}), fault(api.ErrLoop, 2)},
		// Of two bad rings the first node is told, be it as deep or deeper.
		{graphOf([]api.Node{one(4), one(1)}, []int{0}, []int{1}), fault(api.ErrLoop, 0)},
		{graphOf([]api.Node{one(1), one(4)}, []int{0}, []int{1}), fault(api.ErrLoop, 0)},
		{graphOf([]api.Node{input, one(3), one(2), one(3), one(2)}, nil, []int{3}, []int{4}, []int{1}, []int{2}), fault(api.ErrLoop, 1)},
	} {
		if f := Check(x.g); f != x.want {
			t.Error(x.g, f)
		}
		tells(t, x.g)
	}
}

// wired goes through all graphs of nodes in which an edge comes to each port, of a node that it may come from.
func wired(nodes []api.Node, see func(g api.Graph)) {
	var wire func(g api.Graph, to, port int)
	wire = func(g api.Graph, to, port int) {
		if to == len(nodes) {
			see(g)
			return
		}
		if port == portsOf(nodes[to]) {
			wire(g, to+1, 0)
			return
		}
		for _, from := range sourcesOf(g, to, func(int) bool { return true }) {
			wire(api.Graph{Nodes: nodes, Edges: append(g.Edges[:len(g.Edges):len(g.Edges)], edge(from, to, port))}, to, port+1)
		}
	}
	wire(api.Graph{Nodes: nodes}, 0, 0)
}

// I2, I3: all graphs of three nodes that are in a loop, or outside it, in which no port is open.
func TestThreeNodes(t *testing.T) {
	seen := map[api.Errno]int{}
	kinds := []api.Node{one(1), two(1), enter(1), one(2), two(2), feed(2), leave(2), enter(2), two(3), feed(3), leave(3)}
	for _, x := range kinds {
		for _, y := range kinds {
			for _, z := range kinds {
				wired([]api.Node{x, y, z}, func(g api.Graph) { seen[tells(t, g)]++ })
			}
		}
	}
	if seen[api.OK] < 100 || seen[api.ErrLoop] < 1000 || len(seen) != 2 {
		t.Error("not all kinds are seen", seen)
	}
}

// I2, I3: all graphs of nodes that make a loop within a loop, in which no port is open.
func TestSixNodes(t *testing.T) {
	seen := map[api.Fault]int{}
	for _, nodes := range [][]api.Node{
		{two(2), enter(2), two(3), feed(3), leave(3), feed(2)},
		{feed(3), feed(2), leave(3), two(3), enter(2), two(2)},
		{feed(3), two(3), enter(2), leave(3), two(2), feed(2)},
	} {
		wired(nodes, func(g api.Graph) {
			tells(t, g)
			seen[Check(g)]++
		})
	}
	if seen[api.Fault{}] < 100 || seen[fault(api.ErrLoop, 0)] < 100 || len(seen) < 7 {
		t.Error("not all kinds are seen", seen)
	}
}
