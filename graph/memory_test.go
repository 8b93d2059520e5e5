package graph

import (
	"reflect"
	"slices"
	"testing"

	"watershed/api"
)

// answers are what all calls tell of a graph and its nodes.
func answers(g api.Graph) []any {
	l, f := Rank(g)
	list := []any{Check(g), l, f}
	for _, n := range g.Nodes {
		s, e := Sum(n)
		list = append(list, s, e)
	}
	return list
}

// longer is a list with more behind its length.
func longer[T any](list []T, behind T) []T {
	return append(slices.Clone(list), behind, behind)[:len(list)]
}

// stays tells if a list with more behind it is what it was.
func stays[T comparable](list, was []T, behind T) bool {
	return len(list) == len(was) && slices.Equal(list[:len(list)+2], append(slices.Clone(was), behind, behind))
}

// P3: what is handed in, and what lies behind its length, stays as it is and is not looked at.
func TestArgumentsStay(t *testing.T) {
	d := draws(5)
	seen := map[api.Errno]int{}
	for round := range 3000 {
		g := d.graph(1+d.to(manyNodes), 1+d.to(8))
		if round%2 == 0 {
			g = d.spoiled(g)
		}
		// The long one is made ahead of any call that could change the other.
		g2 := api.Graph{Nodes: longer(g.Nodes, one(2)), Edges: longer(g.Edges, edge(0, 0, 1))}
		told := answers(g2)
		if !stays(g2.Nodes, g.Nodes, one(2)) || !stays(g2.Edges, g.Edges, edge(0, 0, 1)) {
			t.Fatal("an argument is changed", g)
		}
		if !reflect.DeepEqual(answers(g), told) {
			t.Fatal("what lies behind a list is seen", g)
		}
		if !reflect.DeepEqual(answers(g), told) {
			t.Fatal("not the same again", g)
		}
		seen[Check(g).Code]++
	}
	if seen[api.OK] < 500 || len(seen) < 6 {
		t.Error("not all kinds are seen", seen)
	}
}

// spoil writes into all memory of a list of numbers.
func spoil(l []int) {
	l = l[:cap(l)]
	for i := range l {
		l[i] = -9
	}
}

// P3: what is told is new each time.
func TestAnswersAreNew(t *testing.T) {
	for _, g := range []api.Graph{looped(), nested(), full()} {
		want := answers(g)
		for _, told := range answers(g) {
			switch y := told.(type) {
			case []int:
				spoil(y)
			case api.Summary:
				spoil(y.Push)
			}
		}
		if !reflect.DeepEqual(answers(g), want) {
			t.Error("an answer shares memory", g)
		}
	}
}

// P3: that there are no nodes or no edges may be said by nil or by an empty list.
func TestNothingThere(t *testing.T) {
	for _, edges := range [][]api.Edge{nil, {}, make([]api.Edge, 0, 2)} {
		for _, nodes := range [][]api.Node{nil, {}, make([]api.Node, 0, 2)} {
			if l, f := Rank(api.Graph{Nodes: nodes, Edges: edges}); len(l) != 0 || f != (api.Fault{}) {
				t.Error(l, f)
			}
		}
		if l, f := Rank(api.Graph{Nodes: []api.Node{input}, Edges: edges}); !slices.Equal(l, []int{0}) || f != (api.Fault{}) {
			t.Error(l, f)
		}
	}
}
