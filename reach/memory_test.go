package reach

import (
	"reflect"
	"slices"
	"testing"

	"watershed/api"
)

// answers are what all calls tell of a graph and stamps.
func answers(g api.Graph, l []api.Stamp, from, to api.Stamp) []any {
	paths, f := Paths(g)
	is, e1 := Could(g, from, to)
	fronts, e2 := Fronts(g, l)
	return []any{paths, f, is, e1, fronts, e2}
}

// longer is a list with more behind its length.
func longer[T any](list []T, behind T) []T {
	return append(slices.Clone(list), behind, behind)[:len(list)]
}

// longerStamp has more behind its time's length.
func longerStamp(s api.Stamp) api.Stamp {
	s.Time = longer(s.Time, -7)
	return s
}

// longerStamps has more behind its length, and behind each time's.
func longerStamps(l []api.Stamp) []api.Stamp {
	list := make([]api.Stamp, len(l))
	for i, s := range l {
		list[i] = longerStamp(s)
	}
	return longer(list, at(0, 0))
}

// stays tells if a list with more behind it is what it was.
func stays[T comparable](list, was []T, behind T) bool {
	return len(list) == len(was) && slices.Equal(list[:len(list)+2], append(slices.Clone(was), behind, behind))
}

// stampsStay tells if stamps with more behind them are what they were.
func stampsStay(l, was []api.Stamp) bool {
	for i, s := range l {
		if s.At != was[i].At || !stays(s.Time, was[i].Time, -7) {
			return false
		}
	}
	return len(l) == len(was) && reflect.DeepEqual(l[len(l):len(l)+2], []api.Stamp{at(0, 0), at(0, 0)})
}

// P3: what is handed in, and what lies behind its length, stays as it is and is not looked at.
func TestArgumentsStay(t *testing.T) {
	d := draws(7)
	for round := range 600 {
		g := d.good(12)
		l, from, to := d.stamps(g, 5, 4), d.stamp(g, 4), d.stamp(g, 4)
		if round%3 == 0 {
			g.Nodes[d.to(len(g.Nodes))].Deep++
		}
		// The long ones are made ahead of any call that could change the others.
		g2 := api.Graph{Nodes: longer(g.Nodes, one(2)), Edges: longer(g.Edges, edge(0, 0, 1))}
		l2, ends := longerStamps(l), []api.Stamp{longerStamp(from), longerStamp(to)}
		told := answers(g2, l2, ends[0], ends[1])
		if !stays(g2.Nodes, g.Nodes, one(2)) || !stays(g2.Edges, g.Edges, edge(0, 0, 1)) || !stampsStay(l2, l) {
			t.Fatal("an argument is changed", g, l)
		}
		if !stampsStay(append(ends, at(0, 0), at(0, 0))[:2], []api.Stamp{from, to}) {
			t.Fatal("a stamp is changed", from, to)
		}
		if !reflect.DeepEqual(answers(g, l, from, to), told) {
			t.Fatal("what lies behind a list is seen", g, l, from, to)
		}
		if !reflect.DeepEqual(answers(g, l, from, to), told) {
			t.Fatal("not the same again", g, l, from, to)
		}
	}
}

// spoil writes into all memory of a list of numbers.
func spoil(l []int) {
	l = l[:cap(l)]
	for i := range l {
		l[i] = -9
	}
}

// P3: what is told is new each time, also where a time is just what was handed in.
func TestAnswersAreNew(t *testing.T) {
	g, l := deepest(), []api.Stamp{at(0, 1, 2, 3, 4), at(4, 1, 2, 3)}
	want := answers(deepest(), longerStamps(l), at(0, 1, 2, 3, 4), at(4, 1, 2, 3))
	for _, told := range answers(g, l, l[0], l[1]) {
		switch y := told.(type) {
		case [][]api.Summary:
			for _, list := range y {
				for _, s := range list[:cap(list)] {
					spoil(s.Push)
				}
				clear(list[:cap(list)])
			}
			clear(y[:cap(y)])
		case [][][]int:
			for _, front := range y {
				for _, time := range front[:cap(front)] {
					spoil(time)
				}
				clear(front[:cap(front)])
			}
			clear(y[:cap(y)])
		}
	}
	if !reflect.DeepEqual(answers(g, l, l[0], l[1]), want) || !reflect.DeepEqual(g, deepest()) {
		t.Error("an answer shares memory")
	}
	if !slices.Equal(l[0].Time, []int{1, 2, 3, 4}) || !slices.Equal(l[1].Time, []int{1, 2, 3}) {
		t.Error("an answer shares memory", l)
	}
}

// P3: no two summaries of the paths share memory, up to where what they put ends and behind it.
func TestSummariesShareNothing(t *testing.T) {
	paths, _ := Paths(deepest())
	want, _ := Paths(deepest())
	for i, list := range paths {
		for j, s := range list {
			spoil(s.Push)
			list[j] = api.Summary{}
			for k, other := range paths {
				for m, r := range other {
					if (k > i || k == i && m > j) && !alike(r, want[k][m]) {
						t.Fatal("two summaries share memory", i, j, k, m)
					}
				}
			}
		}
	}
}

// P3: no two times of the fronts share memory, also where one and the same list was handed in many times.
func TestTimesShareNothing(t *testing.T) {
	time := []int{1, 2, 3, 4}
	l := []api.Stamp{at(0, time...), at(4, time[:3]...), at(2, time...), at(0, time...)}
	fronts, _ := Fronts(deepest(), l)
	want, _ := Fronts(deepest(), l)
	for i, front := range fronts {
		for j, x := range front {
			spoil(x)
			front[j] = nil
			for k, other := range fronts {
				for m, y := range other {
					if (k > i || k == i && m > j) && !slices.Equal(y, want[k][m]) {
						t.Fatal("two times share memory", i, j, k, m)
					}
				}
			}
		}
	}
	if !slices.Equal(time, []int{1, 2, 3, 4}) {
		t.Error("an answer shares memory", time)
	}
}

// P3: that there are no nodes, edges or stamps may be said by nil or by an empty list.
func TestNothingThere(t *testing.T) {
	for _, edges := range [][]api.Edge{nil, {}, make([]api.Edge, 0, 2)} {
		for _, l := range [][]api.Stamp{nil, {}, make([]api.Stamp, 0, 2)} {
			for _, nodes := range [][]api.Node{nil, {}, make([]api.Node, 0, 2)} {
				tellsFronts(t, api.Graph{Nodes: nodes, Edges: edges}, l, nil)
			}
			tellsFronts(t, api.Graph{Nodes: []api.Node{input}, Edges: edges}, l, make([][][]int, 1))
		}
	}
}
