package reach

import (
	"reflect"
	"testing"

	"watershed/api"
)

// Ways that were made once answer what the calls of the graph do.
func TestWays(t *testing.T) {
	d := draws(9)
	for range 300 {
		g := d.good(12)
		w, f := WaysOf(g)
		if f != (api.Fault{}) || len(w.Nodes) != len(g.Nodes) || len(w.Edges) != len(g.Edges) {
			t.Fatal(g, w, f)
		}
		l, from, to := d.stamps(g, 5, 4), d.stamp(g, 3), d.stamp(g, 4)
		fronts, e1 := w.Fronts(l)
		is, e2 := w.Could(from, to)
		want, _ := Could(g, from, to)
		if e1 != api.OK || e2 != api.OK || is != want {
			t.Fatal(g, from, to, is, e1, e2)
		}
		tellsFronts(t, g, l, fronts)
	}
	graphs, faults := faulty()
	for i, g := range graphs {
		if w, f := WaysOf(g); f != faults[i] || w.Nodes != nil || w.Edges != nil || w.least != nil {
			t.Error(g, w, f)
		}
	}
}

// Ways keep nothing of the graph's memory.
func TestWaysAreNew(t *testing.T) {
	g := nested()
	w, _ := WaysOf(g)
	clear(g.Nodes)
	clear(g.Edges)
	if !reflect.DeepEqual(w.Graph, nested()) {
		t.Error(w.Graph)
	}
	want, _ := Fronts(nested(), apart(many))
	if f, e := w.Fronts(apart(many)); e != api.OK || !sameFronts(f, want) {
		t.Error(f, e)
	}
}

// Of ways any number of stamps may be asked.
func TestWaysOfManyStamps(t *testing.T) {
	w, _ := WaysOf(nested())
	for _, n := range []int{many + 1, 300} {
		if f, e := w.Fronts(apart(n)); e != api.OK || !same(f[4], apartFront(n)) {
			t.Error(n, f, e)
		}
	}
	if f, e := w.Fronts(append(apart(300), at(9, 0, 0))); e != api.ErrArg || f != nil {
		t.Error(f, e)
	}
}

// What is wrong with a stamp, asked of ways.
func TestCheckStamp(t *testing.T) {
	w, _ := WaysOf(looped())
	for _, x := range wrongStamps() {
		if e := w.CheckStamp(x.stamp); e != x.want {
			t.Error(x.stamp, e)
		}
	}
	for _, s := range []api.Stamp{at(0, 0), at(0, top), at(2, 0, 0), at(2, top, top), at(4, 0, top), at(5, 1)} {
		if e := w.CheckStamp(s); e != api.OK {
			t.Error(s, e)
		}
	}
	if e := (Ways{}).CheckStamp(at(0, 0)); e != api.ErrArg {
		t.Error(e)
	}
}
