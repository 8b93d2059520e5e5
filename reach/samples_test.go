package reach

import (
	"cmp"
	"slices"
	"testing"

	"watershed/api"
	"watershed/graph"
	"watershed/summary"
)

// top: the greatest number of a time; many: as many stamps as a list may have.
const (
	top  = 1048576
	many = 64
)

// draws are numbers that say nothing of one another, and the same ones each time.
type draws uint32

func (d *draws) to(n int) int {
	*d = *d*1664525 + 1013904223
	return int(*d>>16) % n
}

// graph has n nodes, for each of which, but NInputs, there is one of which just such times go as it needs, and an edge to each
// port: of one that was made earlier, or an NFeed, if there are some. It may have a fault.
func (d *draws) graph(n int) api.Graph {
	g := api.Graph{Nodes: []api.Node{input}}
	for len(g.Nodes) < n {
		x := api.Node{Kind: 1 + d.to(6), Deep: madeOf(g.Nodes[d.to(len(g.Nodes))])}
		if mayOf(x) {
			g.Nodes = append(g.Nodes, x)
		}
	}
	for i, x := range g.Nodes {
		for port := range portsOf(x) {
			from := sourcesOf(g.Nodes, i, func(a int) bool { return a < i || g.Nodes[a].Kind == api.NFeed })
			if len(from) == 0 || d.to(8) == 0 {
				from = sourcesOf(g.Nodes, i, func(int) bool { return true })
			}
			g.Edges = append(g.Edges, edge(from[d.to(len(from))], i, port))
		}
	}
	return d.mixed(g)
}

// grown is a graph with nodes put between, so that there are n: each on an edge, and an NTwo's other port is one to which an edge
// comes of any node that it may come from. It may have a fault.
func (d *draws) grown(g api.Graph, n int) api.Graph {
	for len(g.Nodes) < n {
		i, between := d.to(len(g.Edges)), len(g.Nodes)
		e := g.Edges[i]
		x := api.Node{Kind: []int{api.NOne, api.NTwo, api.NTwo, api.NFeed}[d.to(4)], Deep: g.Nodes[e.To].Deep}
		if !mayOf(x) {
			continue
		}
		g.Nodes = append(g.Nodes, x)
		g.Edges[i].From = between
		g.Edges = append(g.Edges, edge(e.From, between, 0))
		if x.Kind == api.NTwo {
			from := sourcesOf(g.Nodes, between, func(int) bool { return true })
			g.Edges = append(g.Edges, edge(from[d.to(len(from))], between, 1))
		}
	}
	return d.mixed(g)
}

// good is a graph of up to n nodes that has no fault: any one, or a loop, also with others in it, between whose nodes others stand.
func (d *draws) good(n int) api.Graph {
	for {
		g := d.graph(1 + d.to(n))
		if loop := []api.Graph{g, looped(), nested(), deepest()}[d.to(4)]; len(loop.Edges) > 0 && len(loop.Nodes) <= n {
			g = d.grown(loop, n-d.to(1+n-len(loop.Nodes)))
		}
		if graph.Check(g).Code == api.OK {
			return g
		}
	}
}

// mixed is the same graph with other numbers of its nodes, and its edges in another order.
func (d *draws) mixed(g api.Graph) api.Graph {
	nodes, edges := d.shuffled(len(g.Nodes)), d.shuffled(len(g.Edges))
	m := api.Graph{Nodes: make([]api.Node, len(g.Nodes)), Edges: make([]api.Edge, len(g.Edges))}
	for i, x := range g.Nodes {
		m.Nodes[nodes[i]] = x
	}
	for i, e := range g.Edges {
		m.Edges[edges[i]] = edge(nodes[e.From], nodes[e.To], e.Port)
	}
	return m
}

// shuffled has 0 to n - 1, in any order.
func (d *draws) shuffled(n int) []int {
	var list []int
	for i := range n {
		list = slices.Insert(list, d.to(i+1), i)
	}
	return list
}

// stamp is one at a node of g, with numbers below n.
func (d *draws) stamp(g api.Graph, n int) api.Stamp {
	s := api.Stamp{At: d.to(len(g.Nodes))}
	for range g.Nodes[s.At].Deep {
		s.Time = append(s.Time, d.to(n))
	}
	return s
}

// stamps are up to most.
func (d *draws) stamps(g api.Graph, most, n int) []api.Stamp {
	l := make([]api.Stamp, d.to(most+1))
	for i := range l {
		l[i] = d.stamp(g, n)
	}
	return l
}

// sourcesOf are the nodes of which ask is true, and of which such times go as node i needs.
func sourcesOf(nodes []api.Node, i int, ask func(a int) bool) []int {
	var list []int
	for a, x := range nodes {
		if madeOf(x) == nodes[i].Deep && ask(a) {
			list = append(list, a)
		}
	}
	return list
}

// wired goes through all graphs of nodes in which an edge comes to each port, of a node that it may come from, and that have no
// fault.
func wired(nodes []api.Node, see func(g api.Graph)) {
	var wire func(edges []api.Edge, to, port int)
	wire = func(edges []api.Edge, to, port int) {
		g := api.Graph{Nodes: nodes, Edges: edges}
		switch {
		case to == len(nodes):
			if graph.Check(g).Code == api.OK {
				see(g)
			}
		case port == portsOf(nodes[to]):
			wire(edges, to+1, 0)
		default:
			for _, from := range sourcesOf(nodes, to, func(int) bool { return true }) {
				wire(append(slices.Clone(edges), edge(from, to, port)), to, port+1)
			}
		}
	}
	wire(nil, 0, 0)
}

// Nodes in one word; input comes once.
var input = api.Node{Kind: api.NInput, Deep: 1}

func one(deep int) api.Node   { return api.Node{Kind: api.NOne, Deep: deep} }
func two(deep int) api.Node   { return api.Node{Kind: api.NTwo, Deep: deep} }
func enter(deep int) api.Node { return api.Node{Kind: api.NEnter, Deep: deep} }
func leave(deep int) api.Node { return api.Node{Kind: api.NLeave, Deep: deep} }
func feed(deep int) api.Node  { return api.Node{Kind: api.NFeed, Deep: deep} }

// edge goes from a node to a port.
func edge(from, to, port int) api.Edge { return api.Edge{From: from, To: to, Port: port} }

// graphOf has nodes, and the edges that come to each of them, port by port.
func graphOf(nodes []api.Node, from ...[]int) api.Graph {
	g := api.Graph{Nodes: nodes}
	for to, list := range from {
		for port, a := range list {
			g.Edges = append(g.Edges, edge(a, to, port))
		}
	}
	return g
}

// looped is a loop that is entered, and left for a node behind it.
func looped() api.Graph {
	return graphOf([]api.Node{input, enter(1), two(2), feed(2), leave(2), one(1)}, nil, []int{0}, []int{1, 3}, []int{2}, []int{2}, []int{4})
}

// nested has a loop within a loop.
func nested() api.Graph {
	nodes := []api.Node{input, enter(1), two(2), enter(2), two(3), feed(3), leave(3), feed(2), leave(2)}
	return graphOf(nodes, nil, []int{0}, []int{1, 7}, []int{2}, []int{3, 5}, []int{4}, []int{4}, []int{6}, []int{6})
}

// deepest has a loop within a loop within a loop, and no node beside those; node 0 is as deep as may be.
func deepest() api.Graph {
	nodes := []api.Node{two(4), feed(4), leave(4), feed(3), two(3), enter(3), leave(3), feed(2), enter(2)}
	return graphOf(nodes, []int{5, 1}, []int{0}, []int{0}, []int{2}, []int{8, 3}, []int{4}, []int{2}, []int{6}, []int{7})
}

// faulty are graphs with each of the faults, and these.
func faulty() ([]api.Graph, []api.Fault) {
	large := api.Graph{Nodes: make([]api.Node, 13)}
	wrong, twice, apart, open, ring := looped(), looped(), looped(), looped(), looped()
	wrong.Nodes[4] = feed(1)
	twice.Edges[3] = twice.Edges[2]
	apart.Nodes[4] = leave(3)
	open.Edges = open.Edges[:4]
	ring.Nodes[3] = one(2)
	return []api.Graph{large, wrong, twice, apart, open, ring}, []api.Fault{
		{Code: api.ErrLarge}, {Code: api.ErrArg, At: 4}, {Code: api.ErrPort, At: 3}, {Code: api.ErrScope, At: 4}, {Code: api.ErrNone, At: 4}, {Code: api.ErrLoop, At: 2},
	}
}

// mayOf: may there be such a node?
func mayOf(n api.Node) bool {
	_, e := graph.Sum(n)
	return e == api.OK
}

// portsOf: how many ports a node has.
func portsOf(n api.Node) int {
	return map[int]int{api.NOne: 1, api.NTwo: 2, api.NEnter: 1, api.NLeave: 1, api.NFeed: 1}[n.Kind]
}

// madeOf: how many numbers the times have that go from a node.
func madeOf(n api.Node) int {
	return n.Deep + map[int]int{api.NEnter: 1, api.NLeave: -1}[n.Kind]
}

// of is a summary in one line.
func of(keep, add int, push ...int) api.Summary {
	return api.Summary{Keep: keep, Add: add, Push: push}
}

// at is a stamp in one line.
func at(node int, time ...int) api.Stamp { return api.Stamp{At: node, Time: time} }

// alike tells if two summaries keep, add and put the same.
func alike(s, r api.Summary) bool {
	return s.Keep == r.Keep && s.Add == r.Add && slices.Equal(s.Push, r.Push)
}

// compare is below 0 if s comes ahead of r in a front, and 0 if they are alike.
func compare(s, r api.Summary) int {
	return cmp.Or(cmp.Compare(s.Keep, r.Keep), cmp.Compare(s.Add, r.Add), slices.Compare(s.Push, r.Push))
}

// frontOf: of a list those that no other unlike one is below, each once, in their order.
func frontOf[T any](l []T, below func(a, b T) bool, compare func(a, b T) int) []T {
	var front []T
	for _, x := range l {
		if !slices.ContainsFunc(l, func(y T) bool { return below(y, x) && compare(y, x) != 0 }) {
			front = append(front, x)
		}
	}
	slices.SortFunc(front, compare)
	return slices.CompactFunc(front, func(a, b T) bool { return compare(a, b) == 0 })
}

// longest is how many edges the ways have that must be looked at.
//
// What lies on a way between a node and the same one again may be left out, and what is done comes no later, but where fewer numbers
// are kept on it than the node has, and fewer than on any such part behind it. As NFeeds have two numbers or more, and nodes four at
// most, two such parts are left: so no node need come more than three times.
func longest(g api.Graph) int { return 3 * len(g.Nodes) }

// pathsOf: J1's words: what all ways from node a do that have up to longest edges, for each node that they go to.
func pathsOf(t *testing.T, g api.Graph, a int) [][]api.Summary {
	t.Helper()
	all, ends := make([][]api.Summary, len(g.Nodes)), make([][]api.Summary, len(g.Nodes))
	ends[a] = []api.Summary{of(g.Nodes[a].Deep, 0)}
	for range longest(g) + 1 {
		longer := make([][]api.Summary, len(g.Nodes))
		for i, list := range ends {
			all[i] = append(all[i], list...)
		}
		for _, e := range g.Edges {
			sum, _ := graph.Sum(g.Nodes[e.From])
			for _, s := range ends[e.From] {
				does, e1 := summary.Then(s, sum)
				if e1 != api.OK {
					t.Fatal(g, s, sum, e1)
				}
				if !slices.ContainsFunc(longer[e.To], func(r api.Summary) bool { return alike(r, does) }) {
					longer[e.To] = append(longer[e.To], does)
				}
			}
		}
		ends = longer
	}
	for i, list := range all {
		all[i] = frontOf(list, summary.Leq, compare)
	}
	return all
}

// stepOf: I1's words: what a node does to a time.
func stepOf(n api.Node, time []int) []int {
	time = slices.Clone(time)
	switch n.Kind {
	case api.NEnter:
		return append(time, 0)
	case api.NLeave:
		return time[:len(time)-1]
	case api.NFeed:
		time[len(time)-1]++
	}
	return time
}

// comesOf: all times that come of a stamp, edge by edge, on ways of up to longest edges, for each node that they come to.
func comesOf(g api.Graph, from api.Stamp) [][][]int {
	all, ends := make([][][]int, len(g.Nodes)), make([][][]int, len(g.Nodes))
	ends[from.At] = [][]int{from.Time}
	for range longest(g) + 1 {
		longer := make([][][]int, len(g.Nodes))
		for i, list := range ends {
			all[i] = append(all[i], list...)
		}
		for _, e := range g.Edges {
			for _, time := range ends[e.From] {
				made := stepOf(g.Nodes[e.From], time)
				if !slices.ContainsFunc(longer[e.To], func(t []int) bool { return slices.Equal(t, made) }) {
					longer[e.To] = append(longer[e.To], made)
				}
			}
		}
		ends = longer
	}
	return all
}

// leqOf: is no number of a greater than that of b at its place?
func leqOf(a, b []int) bool {
	for i := range a {
		if a[i] > b[i] {
			return false
		}
	}
	return len(a) == len(b)
}

// frontsOf: J3's words, of stamps of which no number comes to be greater than may be.
func frontsOf(g api.Graph, l []api.Stamp) [][][]int {
	fronts := make([][][]int, len(g.Nodes))
	for _, s := range l {
		for i, list := range comesOf(g, s) {
			fronts[i] = append(fronts[i], list...)
		}
	}
	for i, list := range fronts {
		fronts[i] = frontOf(list, leqOf, slices.Compare[[]int])
	}
	return fronts
}

// same tells if two lists of times are the same.
func same(f, g [][]int) bool { return slices.EqualFunc(f, g, slices.Equal[[]int]) }

// sameFronts tells if two lists of fronts are the same.
func sameFronts(f, g [][][]int) bool { return slices.EqualFunc(f, g, same) }

// samePaths tells if two lists of summaries are the same.
func samePaths(l, m []api.Summary) bool { return slices.EqualFunc(l, m, alike) }
