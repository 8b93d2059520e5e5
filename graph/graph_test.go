package graph

import (
	"math"
	"slices"
	"testing"

	"watershed/api"
)

// looped is the chapter's example: a loop that is entered and left.
func looped() api.Graph {
	return graphOf([]api.Node{input, enter(1), two(2), feed(2), leave(2)}, nil, []int{0}, []int{1, 3}, []int{2}, []int{2})
}

// full has as many nodes and edges as may be.
func full() api.Graph {
	nodes := append([]api.Node{input, one(1), one(1)}, slices.Repeat([]api.Node{two(1)}, 9)...)
	from := [][]int{nil, {0}, {0}}
	for i := 3; i < manyNodes; i++ {
		from = append(from, []int{i - 1, i - 2})
	}
	return graphOf(nodes, from...)
}

// goodNodes are all nodes that may be.
func goodNodes() []api.Node {
	list := []api.Node{input}
	for deep := 1; deep <= 4; deep++ {
		for _, n := range []api.Node{one(deep), two(deep), enter(deep), leave(deep), feed(deep)} {
			if mayOf(n) {
				list = append(list, n)
			}
		}
	}
	return list
}

// edgesOf are all edges with such nodes and ports.
func edgesOf(numbers ...int) []api.Edge {
	var list []api.Edge
	for _, from := range numbers {
		for _, to := range numbers {
			for _, port := range numbers {
				list = append(list, edge(from, to, port))
			}
		}
	}
	return list
}

// I2, I3: one node of any kind, and up to two edges.
func TestOneNode(t *testing.T) {
	edges := edgesOf(-1, 0, 1, 2)
	for kind := -1; kind <= 8; kind++ {
		for deep := -1; deep <= 6; deep++ {
			nodes := []api.Node{{Kind: kind, Deep: deep}}
			tells(t, api.Graph{Nodes: nodes})
			for _, a := range edges {
				tells(t, api.Graph{Nodes: nodes, Edges: []api.Edge{a}})
				for _, b := range edges {
					tells(t, api.Graph{Nodes: nodes, Edges: []api.Edge{a, b}})
				}
			}
		}
	}
}

// I2, I3: any two nodes that may be, and up to three edges.
func TestTwoNodes(t *testing.T) {
	seen := map[api.Errno]int{}
	edges := edgesOf(0, 1)
	for _, x := range goodNodes() {
		for _, y := range goodNodes() {
			nodes := []api.Node{x, y}
			seen[tells(t, api.Graph{Nodes: nodes})]++
			for _, a := range edges {
				seen[tells(t, api.Graph{Nodes: nodes, Edges: []api.Edge{a}})]++
				for _, b := range edges {
					seen[tells(t, api.Graph{Nodes: nodes, Edges: []api.Edge{a, b}})]++
					for _, c := range edges {
						seen[tells(t, api.Graph{Nodes: nodes, Edges: []api.Edge{a, b, c}})]++
					}
				}
			}
		}
	}
	for _, e := range []api.Errno{api.OK, api.ErrPort, api.ErrScope, api.ErrNone, api.ErrLoop} {
		if seen[e] < 10 {
			t.Error("not all kinds are seen", seen)
		}
	}
}

// I2: what is said of graphs one by one.
func TestCheckByHand(t *testing.T) {
	for _, x := range []struct {
		g    api.Graph
		want api.Fault
	}{
		{api.Graph{}, api.Fault{}},
		{looped(), api.Fault{}},
		{full(), api.Fault{}},
		{graphOf([]api.Node{input}), api.Fault{}},
		{graphOf(slices.Repeat([]api.Node{input}, 12)), api.Fault{}},
		{graphOf(slices.Repeat([]api.Node{input}, 13)), fault(api.ErrLarge, 0)},
		// Edges may come in any order, and several from one node.
		{api.Graph{Nodes: []api.Node{two(1), input}, Edges: []api.Edge{edge(1, 0, 1), edge(1, 0, 0)}}, api.Fault{}},
		// Of a node that may not be.
		{graphOf([]api.Node{input, {Kind: api.NInput, Deep: 2}, {}}), fault(api.ErrArg, 1)},
		{graphOf([]api.Node{{}, input}), fault(api.ErrArg, 0)},
		{graphOf([]api.Node{input, enter(4)}), fault(api.ErrArg, 1)},
		{graphOf([]api.Node{input, feed(1)}), fault(api.ErrArg, 1)},
		// An edge of nowhere, or to where one goes already.
		{api.Graph{Edges: []api.Edge{{}}}, fault(api.ErrPort, 0)},
		{api.Graph{Nodes: []api.Node{input, one(1)}, Edges: []api.Edge{edge(0, 1, 0), edge(0, 1, 0)}}, fault(api.ErrPort, 1)},
		{api.Graph{Nodes: []api.Node{input, one(1), input}, Edges: []api.Edge{edge(0, 1, 0), edge(2, 1, 0)}}, fault(api.ErrPort, 1)},
		{api.Graph{Nodes: []api.Node{input, input}, Edges: []api.Edge{edge(0, 1, 0)}}, fault(api.ErrPort, 0)},
		{api.Graph{Nodes: []api.Node{input, one(1)}, Edges: []api.Edge{edge(0, 1, 1)}}, fault(api.ErrPort, 0)},
		{api.Graph{Nodes: []api.Node{input, two(1)}, Edges: []api.Edge{edge(0, 1, 1), edge(0, 1, 2)}}, fault(api.ErrPort, 1)},
		{api.Graph{Nodes: []api.Node{input, two(1)}, Edges: []api.Edge{edge(0, 1, 0), edge(0, 1, -1)}}, fault(api.ErrPort, 1)},
		// An edge that goes to a port that is none, and not with as many numbers either.
		{api.Graph{Nodes: []api.Node{input, one(2)}, Edges: []api.Edge{edge(0, 1, 1)}}, fault(api.ErrPort, 0)},
		{api.Graph{Nodes: []api.Node{input, one(2)}, Edges: []api.Edge{edge(0, 1, 0)}}, fault(api.ErrScope, 0)},
		// Edge by edge: the first edge that is wrong is told, by whatever it is.
		{api.Graph{Nodes: []api.Node{input, two(2)}, Edges: []api.Edge{edge(0, 1, 0), edge(0, 1, 5)}}, fault(api.ErrScope, 0)},
		{api.Graph{Nodes: []api.Node{input, two(2)}, Edges: []api.Edge{edge(0, 1, 5), edge(0, 1, 0)}}, fault(api.ErrPort, 0)},
		{graphOf([]api.Node{input, enter(1), one(1)}, nil, []int{0}, []int{1}), fault(api.ErrScope, 1)},
		{graphOf([]api.Node{input, enter(1), leave(2), one(2)}, nil, []int{0}, []int{1}, []int{2}), fault(api.ErrScope, 2)},
		{graphOf([]api.Node{input, feed(2)}, nil, []int{0}), fault(api.ErrScope, 0)},
		// A port to which no edge goes, ahead of rings.
		{graphOf([]api.Node{input, one(1), one(1)}, nil, []int{0}), fault(api.ErrNone, 2)},
		{api.Graph{Nodes: []api.Node{input, two(1)}, Edges: []api.Edge{edge(0, 1, 1)}}, fault(api.ErrNone, 1)},
		{api.Graph{Nodes: []api.Node{input, two(1)}, Edges: []api.Edge{edge(0, 1, 0)}}, fault(api.ErrNone, 1)},
		{graphOf([]api.Node{one(1), two(1)}, []int{0}, []int{0}), fault(api.ErrNone, 1)},
		{graphOf([]api.Node{one(2)}), fault(api.ErrNone, 0)},
	} {
		if f := Check(x.g); f != x.want {
			t.Error(x.g, f)
		}
		tells(t, x.g)
	}
}

// I2: too many nodes or edges are told ahead of all else.
func TestTooLarge(t *testing.T) {
	more := full()
	more.Nodes[2] = two(1)
	more.Edges = append(more.Edges, edge(1, 2, 1))
	for _, g := range []api.Graph{
		more,
		{Nodes: make([]api.Node, 13)},
		{Nodes: make([]api.Node, 1000)},
		{Nodes: make([]api.Node, 1), Edges: make([]api.Edge, 21)},
		{Edges: make([]api.Edge, 1000)},
	} {
		if f := Check(g); f != fault(api.ErrLarge, 0) {
			t.Error(g, f)
		}
		tells(t, g)
	}
	if f := Check(api.Graph{Nodes: make([]api.Node, 12), Edges: make([]api.Edge, 20)}); f != fault(api.ErrArg, 0) {
		t.Error(f)
	}
}

// I2, P1: nodes and edges with the least and the greatest numbers.
func TestFarNumbers(t *testing.T) {
	for _, far := range []int{math.MinInt, math.MinInt + 1, -1, 5, 12, 20, 1 << 32, math.MaxInt - 1, math.MaxInt} {
		for i, e := range []api.Edge{edge(far, 2, 0), edge(2, far, 0), edge(0, 2, far), edge(far, far, far)} {
			g := looped()
			g.Edges[i] = e
			if f := Check(g); f != fault(api.ErrPort, i) {
				t.Error(e, f)
			}
			tells(t, g)
		}
		for i, x := range []api.Node{{Kind: far, Deep: 1}, one(far), two(far), enter(far), leave(far)} {
			if mayOf(x) {
				continue
			}
			g := looped()
			g.Nodes[i] = x
			if f := Check(g); f != fault(api.ErrArg, i) {
				t.Error(x, f)
			}
			tells(t, g)
		}
	}
}

// I2: an operator is not asked for, whatever it is.
func TestAnyOp(t *testing.T) {
	g := looped()
	for i := range g.Nodes {
		g.Nodes[i].Op = api.Op{Kind: 9 - 5*i, A: math.MinInt64, B: math.MaxInt64}
	}
	if e := tells(t, g); e != api.OK {
		t.Error(e)
	}
}

// spoiled changes something of a graph, so that it may have a fault.
func (d *draws) spoiled(g api.Graph) api.Graph {
	n, m := len(g.Nodes), len(g.Edges)
	switch i := d.to(9); {
	case i == 0:
		g.Nodes[d.to(n)].Kind = d.to(8)
	case i == 1:
		g.Nodes[d.to(n)].Deep = d.to(6)
	case i == 2 && d.to(4) == 0:
		g.Nodes = append(g.Nodes, d.nodes(manyNodes)...)
	case m == 0:
	case i == 3:
		g.Edges[d.to(m)].From = d.to(n+2) - 1
	case i == 4:
		g.Edges[d.to(m)].To = d.to(n+2) - 1
	case i == 5:
		g.Edges[d.to(m)].Port = d.to(4) - 1
	case i == 6:
		g.Edges = slices.Delete(g.Edges, m-1, m)
	case i == 7:
		g.Edges = slices.Insert(g.Edges, d.to(m), g.Edges[d.to(m)])
	case i == 8 && d.to(4) == 0:
		g.Edges = append(g.Edges, slices.Repeat(g.Edges, manyEdges)...)
	}
	return g
}

// I2, I3: graphs of all sizes, with all kinds of faults, one beside the other, held against the words.
func TestMixedGraphs(t *testing.T) {
	d := draws(7)
	seen := map[api.Errno]int{}
	for round := range 20000 {
		g := d.graph(1+d.to(manyNodes), 1+d.to(12))
		for range round % 4 {
			g = d.spoiled(g)
		}
		seen[tells(t, g)]++
	}
	for _, e := range []api.Errno{api.OK, api.ErrLarge, api.ErrArg, api.ErrPort, api.ErrScope, api.ErrNone, api.ErrLoop} {
		if seen[e] < 300 {
			t.Error("not all kinds are seen", seen)
		}
	}
}
