package graph

import (
	"slices"

	"watershed/api"
)

// checkRings tells the first node on a bad ring.
func (n net) checkRings() api.Fault {
	var bad []int
	for i := range n.Nodes {
		bad = append(bad, n.badRings(i)...)
	}
	return n.first(api.ErrLoop, func(i int) bool { return slices.Contains(bad, i) })
}

// badRings has the nodes of all bad rings that node i is on as one with the least Deep.
//
// A ring is bad just if none of its nodes with the least Deep is an NFeed: so these rings go through nodes alone that are deeper
// than i, or as deep and no NFeeds. As nodes may come more than once on a ring, a node is on one of them if there is a way of that
// kind to it, and a way back.
func (n net) badRings(i int) []int {
	least := n.Nodes[i].Deep
	on := func(x api.Node) bool { return x.Deep > least || x.Deep == least && x.Kind != api.NFeed }
	list := n.behind(i, on)
	if !slices.Contains(list, i) {
		return nil
	}
	return slices.DeleteFunc(list, func(a int) bool { return !slices.Contains(n.behind(a, on), i) })
}

// behind has the nodes to which ways of one edge or more go from node i, by nodes alone of which on is true.
func (n net) behind(i int, on func(x api.Node) bool) []int {
	var found []int
	var follow func(i int)
	follow = func(i int) {
		for _, e := range n.Edges {
			if e.From == i && on(n.Nodes[e.To]) && !slices.Contains(found, e.To) {
				found = append(found, e.To)
				follow(e.To)
			}
		}
	}
	follow(i)
	return found
}
