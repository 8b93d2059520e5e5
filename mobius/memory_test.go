package mobius

import (
	"reflect"
	"slices"
	"testing"

	"watershed/api"
)

// lists are all that the calls tell, of an order with elements.
func lists(o api.Order, f, g, v []int64) [][]int64 {
	z, e1 := Zeta(o)
	m, e2 := Mu(o)
	p, e3 := Times(o, f, g)
	h, e4 := Inverse(o, f)
	s, e5 := Sums(o, v)
	u, e6 := Undo(o, v)
	c, e7 := Chains(o, 0, o.N-1)
	errors := []int64{int64(e1), int64(e2), int64(e3), int64(e4), int64(e5), int64(e6), int64(e7)}
	return [][]int64{z, m, p, h, s, u, c, errors}
}

// longer is a list with more behind its length.
func longer[T any](list []T, behind T) []T {
	return append(slices.Clone(list), behind, behind)[:len(list)]
}

// P3: what is handed in, and what lies behind its length, stays as it is and is not looked at.
func TestArgumentsStay(t *testing.T) {
	d := draws(4)
	for _, o := range manyOrders(t)[1:] {
		f, g, v := d.table(o, true), d.table(o, false), d.numbers(o.N)
		want := lists(o, f, g, v)
		up, f2, g2, v2 := longer(o.Up, 0xdeadbeef), longer(f, 77), longer(g, 77), longer(v, 77)
		if !reflect.DeepEqual(lists(api.Order{N: o.N, Up: up}, f2, g2, v2), want) {
			t.Fatal("what lies behind a list is seen", o, f, g, v)
		}
		if !slices.Equal(up[:o.N+2], append(slices.Clone(o.Up), 0xdeadbeef, 0xdeadbeef)) {
			t.Fatal(o, up)
		}
		for i, list := range [][]int64{f2, g2, v2} {
			was := [][]int64{f, g, v}[i]
			if !slices.Equal(list[:len(list)+2], append(slices.Clone(was), 77, 77)) {
				t.Fatal(o, was, list)
			}
		}
		if !reflect.DeepEqual(lists(o, f, g, v), want) {
			t.Fatal("not the same again", o, f, g, v)
		}
	}
}

// P3: what is told is new each time, also where it is just what was handed in.
func TestAnswersAreNew(t *testing.T) {
	o := flat(t, 3)
	f, v := onesOf(o), []int64{5, 6, 7}
	want := lists(o, f, f, v)
	for _, list := range lists(o, f, f, v) {
		list = list[:cap(list)]
		for i := range list {
			list[i] = -7
		}
	}
	if !reflect.DeepEqual(lists(o, f, f, v), want) || !slices.Equal(f, onesOf(o)) || !slices.Equal(v, []int64{5, 6, 7}) || !slices.Equal(o.Up, []uint32{1, 2, 4}) {
		t.Error("an answer shares memory")
	}
}
