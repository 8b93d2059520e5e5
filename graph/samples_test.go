package graph

import (
	"slices"
	"testing"

	"watershed/api"
)

// As many nodes and edges as a graph may have.
const (
	manyNodes = 12
	manyEdges = 20
)

// draws are numbers that say nothing of one another, and the same ones each time.
type draws uint32

func (d *draws) to(n int) int {
	*d = *d*1664525 + 1013904223
	return int(*d>>16) % n
}

// one of a list.
func (d *draws) one(list []int) int { return list[d.to(len(list))] }

// nodes are n nodes, for each of which, but NInputs, there is one of which just such times go as it needs.
func (d *draws) nodes(n int) []api.Node {
	list := []api.Node{input}
	for len(list) < n {
		x := api.Node{Kind: 1 + d.to(6), Deep: madeOf(list[d.to(len(list))])}
		if mayOf(x) {
			list = append(list, x)
		}
	}
	return list
}

// graph has n nodes and an edge to each port. One time of turns, and always if turns is 1, an edge comes from any node that it may
// come from; else from one that was made earlier, or an NFeed, if there are some.
func (d *draws) graph(n, turns int) api.Graph {
	g := api.Graph{Nodes: d.nodes(n)}
	for i, x := range g.Nodes {
		for port := range portsOf(x) {
			from := sourcesOf(g, i, func(a int) bool { return a < i || g.Nodes[a].Kind == api.NFeed })
			if len(from) == 0 || d.to(turns) == 0 {
				from = sourcesOf(g, i, func(int) bool { return true })
			}
			g.Edges = append(g.Edges, api.Edge{From: d.one(from), To: i, Port: port})
		}
	}
	return d.mixed(g)
}

// mixed is the same graph with other numbers of its nodes, and its edges in another order.
func (d *draws) mixed(g api.Graph) api.Graph {
	nodes, edges := d.shuffled(len(g.Nodes)), d.shuffled(len(g.Edges))
	m := api.Graph{Nodes: make([]api.Node, len(g.Nodes)), Edges: make([]api.Edge, len(g.Edges))}
	for i, x := range g.Nodes {
		m.Nodes[nodes[i]] = x
	}
	for i, e := range g.Edges {
		m.Edges[edges[i]] = api.Edge{From: nodes[e.From], To: nodes[e.To], Port: e.Port}
	}
	return m
}

// shuffled has 0 to n - 1, in any order.
func (d *draws) shuffled(n int) []int {
	var list []int
	for i := range n {
		list = slices.Insert(list, d.to(i+1), i)
	}
	return list
}

// sourcesOf are the nodes of which ask is true, and of which such times go as node i needs.
func sourcesOf(g api.Graph, i int, ask func(a int) bool) []int {
	var list []int
	for a, x := range g.Nodes {
		if madeOf(x) == g.Nodes[i].Deep && ask(a) {
			list = append(list, a)
		}
	}
	return list
}

// Nodes in one word; input comes once.
var input = api.Node{Kind: api.NInput, Deep: 1}

func one(deep int) api.Node   { return api.Node{Kind: api.NOne, Deep: deep} }
func two(deep int) api.Node   { return api.Node{Kind: api.NTwo, Deep: deep} }
func enter(deep int) api.Node { return api.Node{Kind: api.NEnter, Deep: deep} }
func leave(deep int) api.Node { return api.Node{Kind: api.NLeave, Deep: deep} }
func feed(deep int) api.Node  { return api.Node{Kind: api.NFeed, Deep: deep} }

// edge goes from a node to a port.
func edge(from, to, port int) api.Edge { return api.Edge{From: from, To: to, Port: port} }

// graphOf has nodes, and the edges that come to each of them, port by port.
func graphOf(nodes []api.Node, from ...[]int) api.Graph {
	g := api.Graph{Nodes: nodes}
	for to, list := range from {
		for port, a := range list {
			g.Edges = append(g.Edges, edge(a, to, port))
		}
	}
	return g
}

// mayOf: I1's words.
func mayOf(n api.Node) bool {
	if n.Deep < 1 || n.Deep > 4 {
		return false
	}
	switch n.Kind {
	case api.NInput:
		return n.Deep == 1
	case api.NOne, api.NTwo:
		return true
	case api.NEnter:
		return n.Deep <= 3
	case api.NLeave, api.NFeed:
		return n.Deep >= 2
	}
	return false
}

// portsOf: I1's words.
func portsOf(n api.Node) int {
	return map[int]int{api.NInput: 0, api.NOne: 1, api.NTwo: 2, api.NEnter: 1, api.NLeave: 1, api.NFeed: 1}[n.Kind]
}

// madeOf: I1's words of what goes from a node.
func madeOf(n api.Node) int {
	return n.Deep + map[int]int{api.NEnter: 1, api.NLeave: -1}[n.Kind]
}

// edgeOf: I2's words of an edge.
func edgeOf(g api.Graph, i int) api.Errno {
	e := g.Edges[i]
	if e.From < 0 || e.From >= len(g.Nodes) || e.To < 0 || e.To >= len(g.Nodes) {
		return api.ErrPort
	}
	if e.Port < 0 || e.Port >= portsOf(g.Nodes[e.To]) {
		return api.ErrPort
	}
	for _, x := range g.Edges[:i] {
		if x.To == e.To && x.Port == e.Port {
			return api.ErrPort
		}
	}
	if madeOf(g.Nodes[e.From]) != g.Nodes[e.To].Deep {
		return api.ErrScope
	}
	return api.OK
}

// openOf: has a node a port to which no edge goes?
func openOf(g api.Graph, i int) bool {
	n := 0
	for _, e := range g.Edges {
		if e.To == i {
			n++
		}
	}
	return n < portsOf(g.Nodes[i])
}

// ringsOf are all rings that begin with a node, by what nodes they have, as bits: lists are made longer as long as they come to
// where none was yet that had the same nodes.
func ringsOf(g api.Graph, first int) map[int]bool {
	type list struct{ last, on int }
	rings, seen := map[int]bool{}, map[list]bool{}
	todo := []list{{first, 1 << first}}
	for len(todo) > 0 {
		l := todo[0]
		todo = todo[1:]
		if seen[l] {
			continue
		}
		seen[l] = true
		for _, e := range g.Edges {
			if e.From == l.last {
				todo = append(todo, list{e.To, l.on | 1<<e.To})
				if e.To == first {
					rings[l.on] = true
				}
			}
		}
	}
	return rings
}

// badOf: I2's words of rings.
func badOf(g api.Graph, ring int) bool {
	least := 5
	for i, x := range g.Nodes {
		if ring&(1<<i) != 0 {
			least = min(least, x.Deep)
		}
	}
	for i, x := range g.Nodes {
		if ring&(1<<i) != 0 && x.Kind == api.NFeed && x.Deep == least {
			return false
		}
	}
	return true
}

// onBadOf: is a node on a bad ring?
func onBadOf(g api.Graph, i int) bool {
	for ring := range ringsOf(g, i) {
		if badOf(g, ring) {
			return true
		}
	}
	return false
}

// faultOf: I2's words.
func faultOf(g api.Graph) api.Fault {
	if len(g.Nodes) > manyNodes || len(g.Edges) > manyEdges {
		return fault(api.ErrLarge, 0)
	}
	for i, x := range g.Nodes {
		if !mayOf(x) {
			return fault(api.ErrArg, i)
		}
	}
	for i := range g.Edges {
		if e := edgeOf(g, i); e != api.OK {
			return fault(e, i)
		}
	}
	for i := range g.Nodes {
		if openOf(g, i) {
			return fault(api.ErrNone, i)
		}
	}
	for i := range g.Nodes {
		if onBadOf(g, i) {
			return fault(api.ErrLoop, i)
		}
	}
	return api.Fault{}
}

// fault is one in one line.
func fault(code api.Errno, at int) api.Fault { return api.Fault{Code: code, At: at} }

// rankOf: I3's words, of a graph with no fault.
func rankOf(g api.Graph) []int {
	var list []int
	for range g.Nodes {
		for i := range g.Nodes {
			if !slices.Contains(list, i) && mayComeOf(g, list, i) {
				list = append(list, i)
				break
			}
		}
	}
	return list
}

// mayComeOf: may a node come behind those of a list?
func mayComeOf(g api.Graph, list []int, i int) bool {
	for _, e := range g.Edges {
		if e.To == i && g.Nodes[e.From].Kind != api.NFeed && !slices.Contains(list, e.From) {
			return false
		}
	}
	return true
}

// tells holds what Check and Rank tell against the words, and answers the code.
func tells(t *testing.T, g api.Graph) api.Errno {
	t.Helper()
	want := faultOf(g)
	if f := Check(g); f != want {
		t.Fatal(g, f, want)
	}
	l, f := Rank(g)
	if f != want {
		t.Fatal(g, l, f, want)
	}
	if want.Code != api.OK && len(l) != 0 || want.Code == api.OK && !slices.Equal(l, rankOf(g)) {
		t.Fatal(g, l)
	}
	return want.Code
}
