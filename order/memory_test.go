package order

import (
	"reflect"
	"slices"
	"testing"

	"watershed/api"
)

// answers are what all calls tell of o.
func answers(o api.Order) []any {
	d, e1 := Dual(o)
	covers, e2 := Covers(o)
	list, e3 := Sorted(o)
	heights, e4 := Heights(o)
	chain, e5 := Chain(o)
	split, e6 := Split(o)
	return []any{Check(o), d, covers, list, heights, chain, split, e1, e2, e3, e4, e5, e6}
}

// P3: what is handed in, and what lies behind its length, stays as it is and is not looked at.
func TestArgumentsStay(t *testing.T) {
	for _, o := range manyOrders(t) {
		long := append(slices.Clone(o.Up), 0xdeadbeef, 0xdeadbeef)
		before := slices.Clone(long)
		given := api.Order{N: o.N, Up: long[:o.N]}
		if !reflect.DeepEqual(answers(given), answers(o)) {
			t.Fatal("what lies behind the list is seen", o)
		}
		if !slices.Equal(long, before) {
			t.Fatal(o, long)
		}
	}
	pairs := []api.Pair{{A: 2, B: 1}, {A: 1, B: 0}, {A: 7, B: 7}}
	before := slices.Clone(pairs)
	if o, e := Of(3, pairs[:2]); e != api.OK || !slices.Equal(o.Up, []uint32{1, 3, 7}) || !slices.Equal(pairs, before) {
		t.Error(o, e, pairs)
	}
}

// P3: what is told is new each time; changing it changes neither the argument nor a later answer.
func TestAnswersAreNew(t *testing.T) {
	o := subsets()
	d, _ := Dual(o)
	covers, _ := Covers(o)
	list, _ := Sorted(o)
	heights, _ := Heights(o)
	chain, _ := Chain(o)
	want := answers(subsets())
	clear(d.Up)
	clear(covers)
	clear(list)
	clear(heights)
	clear(chain)
	if !same(o, subsets()) || !reflect.DeepEqual(answers(o), want) {
		t.Error("an answer shares memory")
	}
}

// P3: no list of a split shares memory with another one, not even behind its length.
func TestSplitSharesNothing(t *testing.T) {
	for _, o := range manyOrders(t) {
		s, _ := Split(o)
		want, _ := Split(o)
		lists := append([][]int{s.Anti}, s.Chains...)
		kept := append([][]int{want.Anti}, want.Chains...)
		for k, l := range lists {
			l = l[:cap(l)]
			for i := range l {
				l[i] = -7
			}
			for m := k + 1; m < len(lists); m++ {
				if !slices.Equal(lists[m], kept[m]) {
					t.Fatal(o, k, m)
				}
			}
		}
	}
}

// The bits of a word of any kind, the least one first; who has enough is told no more.
func TestBitsOf(t *testing.T) {
	if l := slices.Collect(bitsOf(uint32(0x80000005))); !slices.Equal(l, []int{0, 2, 31}) {
		t.Error(l)
	}
	if l := slices.Collect(bitsOf(uint64(1 << 63))); !slices.Equal(l, []int{63}) {
		t.Error(l)
	}
	if l := slices.Collect(bitsOf(uint8(0))); len(l) != 0 {
		t.Error(l)
	}
	n := 0
	for i := range bitsOf(uint16(0xffff)) {
		n++
		if i == 3 {
			break
		}
	}
	if n != 4 {
		t.Error(n)
	}
}
