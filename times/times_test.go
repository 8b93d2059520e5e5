package times

import (
	"math"
	"slices"
	"testing"

	"watershed/api"
)

// G1: each length, each place, each edge.
func TestCheck(t *testing.T) {
	for n := range 8 {
		want := api.OK
		if n == 0 || n > 4 {
			want = api.ErrLarge
		}
		for _, good := range []int{0, 1, top - 1, top} {
			if e := Check(slices.Repeat([]int{good}, n)); e != want {
				t.Error(n, good, e, want)
			}
		}
		// That there are too many numbers is told ahead of that one is wrong.
		if want == api.OK {
			want = api.ErrArg
		}
		for at := range n {
			for _, wrong := range []int{-1, top + 1, math.MinInt, math.MaxInt, 1 << 32, -top} {
				l := make([]int, n)
				l[at] = wrong
				if e := Check(l); e != want {
					t.Error(l, e, want)
				}
			}
		}
	}
	if e := Check(nil); e != api.ErrLarge {
		t.Error(e)
	}
	if e := Check(make([]int, 1000)); e != api.ErrLarge {
		t.Error(e)
	}
}

// someLists are times of all lengths, and what is none: with numbers at the edges and beyond them.
func someLists() [][]int {
	var lists [][]int
	for n := range 4 {
		lists = append(lists, allOf(n, -1, 0, 1, top, top+1)...)
	}
	lists = append(lists, allOf(4, 0, 1, top)...)
	return append(lists, nil, []int{0, 0, 0, -1}, []int{top + 1, 0, 0, 0}, []int{0, 0, 0, 0, 0}, []int{1, 1, 1, 1, -1}, make([]int, 64))
}

// G1
func TestPairs(t *testing.T) {
	seen := map[api.Errno]int{}
	lists := someLists()
	for _, a := range lists {
		if e := Check(a); e != checkOf(a) {
			t.Fatal(a, e)
		}
		for _, b := range lists {
			if Leq(a, b) != leqOf(a, b) || Less(a, b) != lessOf(a, b) {
				t.Fatal(a, b, Leq(a, b), Less(a, b))
			}
			want := pairOf(a, b)
			seen[want]++
			j, e1 := Join(a, b)
			m, e2 := Meet(a, b)
			if e1 != want || e2 != want {
				t.Fatal(a, b, e1, e2, want)
			}
			if want != api.OK && len(j)+len(m) != 0 {
				t.Fatal(a, b, j, m)
			}
			if want == api.OK && (!slices.Equal(j, joinOf(a, b)) || !slices.Equal(m, meetOf(a, b))) {
				t.Fatal(a, b, j, m)
			}
		}
	}
	for _, e := range []api.Errno{api.OK, api.ErrLarge, api.ErrArg, api.ErrForm} {
		if seen[e] < 1000 {
			t.Error("not all kinds are seen", e, seen[e])
		}
	}
}

// G1: Leq is an order of which Join and Meet are what their names say; Less has it within.
func TestLaws(t *testing.T) {
	for n := 1; n <= 3; n++ {
		list := allOf(n, 0, 3, top)
		for _, a := range list {
			for _, b := range list {
				j, _ := Join(a, b)
				m, _ := Meet(a, b)
				if Leq(a, b) != slices.Equal(j, b) || Leq(a, b) != slices.Equal(m, a) {
					t.Fatal(a, b, j, m)
				}
				unlike := !slices.Equal(a, b)
				if unlike && Leq(a, b) && !Less(a, b) || Less(a, b) && Less(b, a) || unlike && !Less(a, b) && !Less(b, a) {
					t.Fatal(a, b)
				}
				for _, c := range list {
					if (Leq(a, c) && Leq(b, c)) != Leq(j, c) || (Leq(c, a) && Leq(c, b)) != Leq(c, m) {
						t.Fatal(a, b, c, j, m)
					}
				}
			}
		}
	}
}

// G1: what is said here one by one.
func TestPairsByHand(t *testing.T) {
	for _, x := range []struct {
		a, b       []int
		leq, less  bool
		join, meet []int
	}{
		{[]int{0}, []int{0}, true, false, []int{0}, []int{0}},
		{[]int{0}, []int{1}, true, true, []int{1}, []int{0}},
		{[]int{1}, []int{0}, false, false, []int{1}, []int{0}},
		{[]int{1, 4}, []int{2, 3}, false, true, []int{2, 4}, []int{1, 3}},
		{[]int{2, 3}, []int{1, 4}, false, false, []int{2, 4}, []int{1, 3}},
		{[]int{1, 2}, []int{1, 3}, true, true, []int{1, 3}, []int{1, 2}},
		{[]int{0, 9}, []int{1, 0}, false, true, []int{1, 9}, []int{0, 0}},
		{[]int{5, 0, top, 7}, []int{5, top, 0, 7}, false, true, []int{5, top, top, 7}, []int{5, 0, 0, 7}},
		{[]int{top, top, top, top}, []int{top, top, top, top}, true, false, []int{top, top, top, top}, []int{top, top, top, top}},
	} {
		if Leq(x.a, x.b) != x.leq || Less(x.a, x.b) != x.less {
			t.Error(x.a, x.b, Leq(x.a, x.b), Less(x.a, x.b))
		}
		if j, e := Join(x.a, x.b); e != api.OK || !slices.Equal(j, x.join) {
			t.Error(x.a, x.b, j, e)
		}
		if m, e := Meet(x.a, x.b); e != api.OK || !slices.Equal(m, x.meet) {
			t.Error(x.a, x.b, m, e)
		}
	}
}

// G1: the errors of a come ahead of those of b, and both ahead of ErrForm; what has an error is neither Leq nor Less.
func TestWrongPairs(t *testing.T) {
	for _, x := range []struct {
		a, b []int
		want api.Errno
	}{
		{nil, []int{-1}, api.ErrLarge},
		{[]int{-1}, nil, api.ErrArg},
		{[]int{0}, nil, api.ErrLarge},
		{[]int{0}, []int{-1}, api.ErrArg},
		{[]int{0}, []int{0, top + 1}, api.ErrArg},
		{[]int{0}, []int{0, 0, 0, 0, 0}, api.ErrLarge},
		{[]int{0, 0, 0, 0, -1}, []int{0, 0, 0, 0, 0}, api.ErrLarge},
		{[]int{0}, []int{0, 0}, api.ErrForm},
		{[]int{0, 0, 0, 0}, []int{1, 1, 1}, api.ErrForm},
		{nil, nil, api.ErrLarge},
		{[]int{-1}, []int{-1}, api.ErrArg},
		{[]int{-2}, []int{1}, api.ErrArg},
		{[]int{1}, []int{top + 1}, api.ErrArg},
	} {
		if j, e := Join(x.a, x.b); e != x.want || len(j) != 0 {
			t.Error(x.a, x.b, j, e)
		}
		if m, e := Meet(x.a, x.b); e != x.want || len(m) != 0 {
			t.Error(x.a, x.b, m, e)
		}
		if Leq(x.a, x.b) || Less(x.a, x.b) {
			t.Error(x.a, x.b)
		}
	}
}
