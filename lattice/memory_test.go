package lattice

import (
	"reflect"
	"slices"
	"testing"

	"watershed/api"
)

// answers are what all calls tell of o.
func answers(o api.Order, gens []int) []any {
	l, e1 := Make(o)
	a, b, e2 := Irreducible(o)
	k, e3 := Kind(o)
	s, e4 := Sub(o, gens)
	return []any{l, a, b, k, s, e1, e2, e3, e4}
}

// P3: what is handed in, and what lies behind its length, stays as it is and is not looked at.
func TestArgumentsStay(t *testing.T) {
	for _, o := range lattices(t) {
		up := append(slices.Clone(o.Up), 0xdeadbeef, 0xdeadbeef)
		gens := []int{o.N - 1, 0, 0, -9, 99}
		up1, gens1 := slices.Clone(up), slices.Clone(gens)
		got := answers(api.Order{N: o.N, Up: up[:o.N]}, gens[:3])
		if !reflect.DeepEqual(got, answers(o, []int{o.N - 1, 0, 0})) {
			t.Fatal("what lies behind a list is seen", o)
		}
		if !slices.Equal(up, up1) || !slices.Equal(gens, gens1) {
			t.Fatal(o, up, gens)
		}
	}
}

// P3: what is told is new each time, and no two lists of it share memory.
func TestAnswersAreNew(t *testing.T) {
	o, gens := subsets(), []int{1, 2, 12}
	want := answers(o, gens)
	l, _ := Make(o)
	a, b, _ := Irreducible(o)
	s, _ := Sub(o, gens)
	x, _ := TableOf(o)
	lists := [][]int{l.Join, l.Meet, a, b, s, x.Join, x.Meet}
	for k, list := range lists {
		list = list[:cap(list)]
		for i := range list {
			list[i] = -7
		}
		for _, later := range lists[k+1:] {
			if slices.Contains(later, -7) {
				t.Error("two lists share memory", k)
			}
		}
	}
	clear(x.Up)
	if !reflect.DeepEqual(answers(o, gens), want) || !slices.Equal(gens, []int{1, 2, 12}) {
		t.Error("an answer shares memory")
	}
}

// The table puts any number of elements together.
func TestTable(t *testing.T) {
	x, e := TableOf(subsets())
	if e != api.OK || x.N != 16 || x.Top != 15 || x.Bottom != 0 {
		t.Fatal(x, e)
	}
	if x.JoinOf(1, 4, 8) != 13 || x.JoinOf(6) != 6 || x.MeetOf(7, 14, 6, 12) != 4 || x.MeetOf(9) != 9 {
		t.Error(x.JoinOf(1, 4, 8), x.MeetOf(7, 14, 6, 12))
	}
	if !x.Below(3, 7) || !x.Below(3, 3) || x.Below(7, 3) || x.Below(1, 2) {
		t.Error("below")
	}
}

// All three of a few, in order; who has enough is told no more.
func TestThrees(t *testing.T) {
	want := [][3]int{{0, 0, 0}, {0, 0, 1}, {0, 1, 0}, {0, 1, 1}, {1, 0, 0}, {1, 0, 1}, {1, 1, 0}, {1, 1, 1}}
	if l := slices.Collect(threes(2)); !slices.Equal(l, want) {
		t.Error(l)
	}
	for x := range threes(16) {
		if x == [3]int{0, 1, 0} {
			break
		}
		if x[1] > 0 {
			t.Fatal(x)
		}
	}
}
