package order

import (
	"math/bits"
	"slices"
	"testing"

	"watershed/api"
)

// chainsOf are all chains of o, by their elements as a word; the empty one among them.
func chainsOf(o api.Order) [][]int {
	var lists [][]int
	for w := uint32(0); w < 1<<uint(o.N); w++ {
		list := make([]int, bits.OnesCount32(w))
		ok := true
		for i := range o.N {
			if w>>uint(i)&1 == 0 {
				continue
			}
			under := 0
			for j := range o.N {
				if w>>uint(j)&1 == 1 && isStrictly(o, j, i) {
					under++
				}
			}
			list[under] = i
		}
		for k := 1; k < len(list); k++ {
			ok = ok && isStrictly(o, list[k-1], list[k])
		}
		if ok {
			lists = append(lists, list)
		}
	}
	return lists
}

// fewOrders are small ones and edges, and of the mixed ones those of up to 9 elements and a few of each greater number: all
// chains of a great one take long to tell.
func fewOrders(t *testing.T) []api.Order {
	list := append(smallOrders(), subsets(), flat(16), line(16))
	great := make([]int, api.MaxN+1)
	for _, o := range mixed(t) {
		great[o.N]++
		if o.N <= 9 || great[o.N] <= 4 {
			list = append(list, o)
		}
	}
	return list
}

func isChain(o api.Order, list []int) bool {
	for k := 1; k < len(list); k++ {
		if !isStrictly(o, list[k-1], list[k]) {
			return false
		}
	}
	return true
}

// sortedOf says A4's words: each time the least one, of those that are not there yet, below which all are there.
func sortedOf(o api.Order) []int {
	var list []int
	for len(list) < o.N {
		for i := range o.N {
			may := !slices.Contains(list, i)
			for j := range o.N {
				may = may && (!isStrictly(o, j, i) || slices.Contains(list, j))
			}
			if may {
				list = append(list, i)
				break
			}
		}
	}
	return list
}

// A4
func TestSorted(t *testing.T) {
	for _, o := range manyOrders(t) {
		if l, e := Sorted(o); e != api.OK || !slices.Equal(l, sortedOf(o)) {
			t.Fatal(o, l, e)
		}
	}
	// 2 below 0: 0 may come as soon as 2 has, ahead of 3.
	o, _ := Of(4, []api.Pair{{A: 2, B: 0}})
	if l, e := Sorted(o); e != api.OK || !slices.Equal(l, []int{1, 2, 0, 3}) {
		t.Error(l, e)
	}
	d, _ := Dual(line(16))
	if l, e := Sorted(d); e != api.OK || len(l) != 16 || l[0] != 15 || l[15] != 0 {
		t.Error(l, e)
	}
}

// A4
func TestHeights(t *testing.T) {
	for _, o := range fewOrders(t) {
		want := make([]int, o.N)
		for _, c := range chainsOf(o) {
			if len(c) > 0 {
				last := c[len(c)-1]
				want[last] = max(want[last], len(c)-1)
			}
		}
		if l, e := Heights(o); e != api.OK || !slices.Equal(l, want) {
			t.Fatal(o, l, e, want)
		}
	}
	l, e := Heights(subsets())
	for i, h := range l {
		if h != bits.OnesCount(uint(i)) {
			t.Error(i, h)
		}
	}
	if e != api.OK || len(l) != 16 {
		t.Error(l, e)
	}
}

// A4: of the longest chains the one that is least where they first differ.
func TestChain(t *testing.T) {
	for _, o := range fewOrders(t) {
		var want []int
		for _, c := range chainsOf(o) {
			if len(c) > len(want) || len(c) == len(want) && slices.Compare(c, want) < 0 {
				want = c
			}
		}
		if l, e := Chain(o); e != api.OK || !slices.Equal(l, want) {
			t.Fatal(o, l, e, want)
		}
	}
	if l, e := Chain(subsets()); e != api.OK || !slices.Equal(l, []int{0, 1, 3, 7, 15}) {
		t.Error(l, e)
	}
	// 2 3, 2 5 and 4 1 are the longest ones: 0 is in none of them, and 1 comes behind a greater beginning.
	o, _ := Of(6, []api.Pair{{A: 4, B: 1}, {A: 2, B: 5}, {A: 2, B: 3}})
	if l, e := Chain(o); e != api.OK || !slices.Equal(l, []int{2, 3}) {
		t.Error(l, e)
	}
}

// splits tells if s is as A5 says.
func splits(o api.Order, s api.Split) bool {
	if len(s.Anti) != len(s.Chains) {
		return false
	}
	for k, i := range s.Anti {
		if i < 0 || i >= o.N || k > 0 && s.Anti[k-1] >= i {
			return false
		}
		for _, j := range s.Anti {
			if isStrictly(o, i, j) {
				return false
			}
		}
	}
	var all []int
	for _, c := range s.Chains {
		if len(c) == 0 || slices.Min(c) < 0 || slices.Max(c) >= o.N || !isChain(o, c) {
			return false
		}
		all = append(all, c...)
	}
	slices.Sort(all)
	return len(all) == o.N && len(slices.Compact(all)) == o.N
}

// A5
func TestSplit(t *testing.T) {
	for _, o := range manyOrders(t) {
		if s, e := Split(o); e != api.OK || !splits(o, s) {
			t.Fatal(o, s, e)
		}
	}
	if s, e := Split(subsets()); e != api.OK || len(s.Anti) != 6 {
		t.Error(s, e)
	}
	if s, e := Split(line(16)); e != api.OK || len(s.Anti) != 1 {
		t.Error(s, e)
	}
	if s, e := Split(flat(16)); e != api.OK || len(s.Anti) != 16 {
		t.Error(s, e)
	}
	if s, e := Split(api.Order{}); e != api.OK || len(s.Anti) != 0 || len(s.Chains) != 0 {
		t.Error(s, e)
	}
}

// A5: links that were made first must be moved: 0 takes 2 ahead of 1, which has nothing else above it.
func TestSplitMoves(t *testing.T) {
	o, _ := Of(4, []api.Pair{{A: 0, B: 2}, {A: 0, B: 3}, {A: 1, B: 2}})
	s, e := Split(o)
	if e != api.OK || len(s.Chains) != 2 || !splits(o, s) {
		t.Error(s, e)
	}
}

// The whole example of the chapter.
func TestExample(t *testing.T) {
	pairs := []api.Pair{{A: 0, B: 1}, {A: 1, B: 2}}
	o, e := Of(3, pairs)
	if e != api.OK || o.N != 3 || !slices.Equal(o.Up, []uint32{7, 6, 4}) {
		t.Fatal(o, e)
	}
	if l, e := Covers(o); e != api.OK || !slices.Equal(l, pairs) {
		t.Error(l, e)
	}
	if l, e := Chain(o); e != api.OK || !slices.Equal(l, []int{0, 1, 2}) {
		t.Error(l, e)
	}
}
