package reach

import (
	"iter"
	"slices"

	"watershed/api"
	"watershed/graph"
	"watershed/summary"
	"watershed/times"
)

// Ways are a graph, and what its ways do: for node a and node b, at a * n + b, the least of what those from a to b do.
type Ways struct {
	api.Graph
	least [][]api.Summary
}

// WaysOf makes the ways of g, and tells graph's Check's fault.
func WaysOf(g api.Graph) (Ways, api.Fault) {
	if f := graph.Check(g); f.Code != api.OK {
		return Ways{}, f
	}
	w := Ways{Graph: api.Graph{Nodes: slices.Clone(g.Nodes), Edges: slices.Clone(g.Edges)}}
	for a := range w.Nodes {
		for _, list := range w.from(a) {
			w.least = append(w.least, summary.Least(list))
		}
	}
	return w, api.Fault{}
}

// A walk is what a way does, and the node that it goes to.
type walk struct {
	does api.Summary
	to   int
}

// from has for each node what ways from node a to it do: of all such ways one that is Leq to it at least.
//
// What is Leq stays so if both go on by the same edges: so a walk need not go on where one that is Leq to it has been. That comes
// to an end, as of summaries only so many can come one behind the other of which no earlier one is Leq to a later one; and as
// shorter walks come first, few of them are found that are not among the least.
func (w Ways) from(a int) [][]api.Summary {
	found := make([][]api.Summary, len(w.Nodes))
	todo := []walk{{does: api.Summary{Keep: w.Nodes[a].Deep}, to: a}}
	for len(todo) > 0 {
		x := todo[0]
		todo = todo[1:]
		if slices.ContainsFunc(found[x.to], func(s api.Summary) bool { return summary.Leq(s, x.does) }) {
			continue
		}
		found[x.to] = append(found[x.to], x.does)
		todo = append(todo, w.next(x)...)
	}
	return found
}

// next has the walks with one edge more; none, if a sum would be too great, as then no way by them does anything.
func (w Ways) next(x walk) []walk {
	node, _ := graph.Sum(w.Nodes[x.to])
	does, e := summary.Then(x.does, node)
	if e != api.OK {
		return nil
	}
	var list []walk
	for _, edge := range w.Edges {
		if edge.From == x.to {
			list = append(list, walk{does: does, to: edge.To})
		}
	}
	return list
}

// CheckStamp tells what is wrong with a stamp: ErrArg, if it is at no node; what is wrong with its time; ErrScope, if that has not
// as many numbers as those that come to the node.
func (w Ways) CheckStamp(s api.Stamp) api.Errno {
	if s.At < 0 || s.At >= len(w.Nodes) {
		return api.ErrArg
	}
	if e := times.Check(s.Time); e != api.OK {
		return e
	}
	if len(s.Time) != w.Nodes[s.At].Deep {
		return api.ErrScope
	}
	return api.OK
}

// checkAll tells what is wrong with the first stamp with which something is.
func (w Ways) checkAll(l ...api.Stamp) api.Errno {
	for _, s := range l {
		if e := w.CheckStamp(s); e != api.OK {
			return e
		}
	}
	return api.OK
}

// Could tells if of one stamp a time could come that is Leq to the other's, at the other's node.
func (w Ways) Could(from, to api.Stamp) (bool, api.Errno) {
	if e := w.checkAll(from, to); e != api.OK {
		return false, e
	}
	for t := range w.arriving(to.At, from) {
		if times.Leq(t, to.Time) {
			return true, api.OK
		}
	}
	return false, api.OK
}

// Fronts tells for each node the front of all times that could come there of stamps, of which there may be any number.
func (w Ways) Fronts(l []api.Stamp) ([][][]int, api.Errno) {
	if e := w.checkAll(l...); e != api.OK {
		return nil, e
	}
	var fronts [][][]int
	for b := range w.Nodes {
		fronts = append(fronts, times.Least(slices.Collect(w.arriving(b, l...))))
	}
	return fronts, api.OK
}

// arriving goes through the times that the ways to node b make of those of stamps; what would be above MaxCoord arrives nowhere.
func (w Ways) arriving(b int, l ...api.Stamp) iter.Seq[[]int] {
	return func(yield func(t []int) bool) {
		for _, s := range l {
			for _, way := range w.least[s.At*len(w.Nodes)+b] {
				if t, e := summary.Apply(way, s.Time); e == api.OK && !yield(t) {
					return
				}
			}
		}
	}
}
