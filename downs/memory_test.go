package downs

import (
	"reflect"
	"slices"
	"testing"

	"watershed/api"
)

// answers are what all calls tell of o.
func answers(o api.Order, set uint32) []any {
	a, e1 := Down(o, set)
	b, e2 := Maximal(o, set)
	c, e3 := Minimal(o, set)
	list, e4 := All(o)
	n, e5 := Count(o)
	p, e6 := Inclusion(o)
	sets, e7 := Birkhoff(o)
	return []any{a, b, c, list, n, p, sets, e1, e2, e3, e4, e5, e6, e7}
}

// P3: what is handed in, and what lies behind its length, stays as it is and is not looked at.
func TestArgumentsStay(t *testing.T) {
	for _, o := range manyOrders(t) {
		long := append(slices.Clone(o.Up), 0xdeadbeef, 0xdeadbeef)
		before := slices.Clone(long)
		set := uint32(0x5a5a) & (1<<uint(o.N) - 1)
		if !reflect.DeepEqual(answers(api.Order{N: o.N, Up: long[:o.N]}, set), answers(o, set)) {
			t.Fatal("what lies behind the list is seen", o)
		}
		if !slices.Equal(long, before) {
			t.Fatal(o, long)
		}
	}
}

// P3: what is told is new each time; changing it changes neither the argument nor another answer.
func TestAnswersAreNew(t *testing.T) {
	o := api.Order{N: 4, Up: []uint32{15, 10, 12, 8}}
	up := slices.Clone(o.Up)
	want := answers(o, 6)
	list, _ := All(o)
	p, _ := Inclusion(o)
	sets, _ := Birkhoff(o)
	lists := [][]uint32{list, p.Up, sets}
	for k, l := range lists {
		l = l[:cap(l)]
		for i := range l {
			l[i] = 0xdeadbeef
		}
		for _, later := range lists[k+1:] {
			if slices.Contains(later, 0xdeadbeef) {
				t.Error("two answers share memory", k)
			}
		}
	}
	if !slices.Equal(o.Up, up) || !reflect.DeepEqual(answers(o, 6), want) {
		t.Error("an answer shares memory")
	}
}
