package fixed

import (
	"reflect"
	"slices"
	"testing"

	"watershed/api"
)

// answers are what all calls tell.
func answers(o, p api.Order, f []int) []any {
	e1 := Check(o, f)
	l, e2 := All(o, f)
	x, n, e3 := Least(o, f)
	y, m, e4 := Greatest(o, f)
	g, e5 := Adjoint(o, p, f)
	return []any{l, x, n, y, m, g, e1, e2, e3, e4, e5}
}

// longer is o with words behind its list.
func longer(o api.Order) api.Order {
	return api.Order{N: o.N, Up: append(slices.Clone(o.Up), 0xdeadbeef, 0xdeadbeef)[:o.N]}
}

// P3: what is handed in, and what lies behind its length, stays as it is and is not looked at.
func TestArgumentsStay(t *testing.T) {
	d := draws(4)
	for _, o := range append(smallLattices(), greatLattices(t)...) {
		for _, f := range mapsOf(t, o, &d) {
			a, b := longer(o), longer(o)
			long := append(slices.Clone(f), -9, 99)
			want := answers(o, o, f)
			if !reflect.DeepEqual(answers(a, b, long[:o.N]), want) {
				t.Fatal("what lies behind a list is seen", o, f)
			}
			if !slices.Equal(long, append(slices.Clone(f), -9, 99)) {
				t.Fatal(o, f, long)
			}
			for _, w := range []api.Order{a, b} {
				if w.N != o.N || !slices.Equal(w.Up[:o.N+2], longer(o).Up[:o.N+2]) {
					t.Fatal(o, f, w)
				}
			}
			if !reflect.DeepEqual(answers(o, o, f), want) {
				t.Fatal("not the same again", o, f)
			}
		}
	}
}

// P3: what is told is new each time.
func TestAnswersAreNew(t *testing.T) {
	o, f := line(t, 3), []int{0, 1, 2}
	want := answers(o, o, f)
	l, _ := All(o, f)
	g, _ := Adjoint(o, o, f)
	for _, list := range [][]int{l, g} {
		list = list[:cap(list)]
		for i := range list {
			list[i] = -7
		}
	}
	if !reflect.DeepEqual(answers(o, o, f), want) || !slices.Equal(f, []int{0, 1, 2}) || !slices.Equal(o.Up, []uint32{7, 6, 4}) {
		t.Error("an answer shares memory")
	}
}
