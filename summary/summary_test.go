package summary

import (
	"math"
	"slices"
	"testing"

	"watershed/api"
)

// someOnes are summaries, and what is none.
func someOnes() []api.Summary {
	return append(goodOnes(0, 1, top), wrongOnes()...)
}

// H1
func TestCheck(t *testing.T) {
	seen := map[api.Errno]int{}
	for _, s := range someOnes() {
		for _, in := range []int{math.MinInt, -1, 0, 1, 2, 3, 4, 5, 6, 1 << 32, math.MaxInt} {
			e := Check(s, in)
			seen[e]++
			if e != checkOf(s, in) {
				t.Fatal(s, in, e)
			}
		}
	}
	for _, e := range []api.Errno{api.OK, api.ErrLarge, api.ErrArg} {
		if seen[e] < 100 {
			t.Error("not all kinds are seen", seen)
		}
	}
}

// H1: what is said here one by one.
func TestCheckByHand(t *testing.T) {
	for _, x := range []struct {
		s    api.Summary
		in   int
		want api.Errno
	}{
		{of(1, 0), 1, api.OK},
		{of(1, top, 0, top, 0), 1, api.OK},
		{of(4, top), 4, api.OK},
		{of(2, 1), 4, api.OK},
		{of(2, 1), 1, api.ErrLarge},
		{of(1, 0), 0, api.ErrLarge},
		{of(1, 0), -1, api.ErrLarge},
		{of(1, 0), 5, api.ErrLarge},
		{of(5, 0), 5, api.ErrLarge},
		{of(0, 0), 0, api.ErrLarge},
		{of(0, 0), 3, api.ErrLarge},
		{of(0, 0, 1), 3, api.ErrLarge},
		{of(-1, 0, 1, 1, 1, 1), 3, api.ErrLarge},
		{of(4, 0, 0), 4, api.ErrLarge},
		{of(1, 0, 0, 0, 0, 0), 1, api.ErrLarge},
		{of(1, -1), 1, api.ErrArg},
		{of(1, top+1), 1, api.ErrArg},
		{of(1, 0, -1), 1, api.ErrArg},
		{of(1, 0, 0, 0, top+1), 1, api.ErrArg},
		// That something is too large is told ahead of that a number is wrong.
		{of(1, -1), 5, api.ErrLarge},
		{of(2, -1), 1, api.ErrLarge},
		{of(0, -1), 1, api.ErrLarge},
		{of(4, 0, -1), 4, api.ErrLarge},
	} {
		if e := Check(x.s, x.in); e != x.want {
			t.Error(x.s, x.in, e, x.want)
		}
	}
}

// someTimes are times of all lengths, and what is none.
func someTimes() [][]int {
	var list [][]int
	for n := range 4 {
		list = append(list, allOf(n, 0, 1, top-1, top)...)
	}
	list = append(list, allOf(4, 0, 3, top)...)
	return append(list, nil, []int{-1}, []int{0, top + 1}, []int{top + 1, 0, 0, 0}, []int{0, 0, 0, math.MinInt}, []int{0, 0, 0, 0, 0}, []int{-1, 0, 0, 0, 0}, make([]int, 1000))
}

// H1
func TestApply(t *testing.T) {
	seen := map[api.Errno]int{}
	for _, s := range someOnes() {
		for _, at := range someTimes() {
			want, code := applyOf(s, at)
			seen[code]++
			if made, e := Apply(s, at); e != code || !slices.Equal(made, want) {
				t.Fatal(s, at, made, e, want, code)
			}
		}
	}
	for _, e := range []api.Errno{api.OK, api.ErrLarge, api.ErrArg, api.ErrOver} {
		if seen[e] < 1000 {
			t.Error("not all kinds are seen", seen)
		}
	}
}

// H1: what is said here one by one.
func TestApplyByHand(t *testing.T) {
	for _, x := range []struct {
		s        api.Summary
		at, want []int
	}{
		{of(1, 0), []int{7}, []int{7}},
		{of(1, 2), []int{7}, []int{9}},
		{of(1, 0, 0), []int{7}, []int{7, 0}},
		{of(1, 1, 2, 3, 4), []int{7}, []int{8, 2, 3, 4}},
		{of(2, 1), []int{3, 4, 5}, []int{3, 5}},
		{of(1, 0), []int{3, 4, 5, 6}, []int{3}},
		{of(2, 3, 8), []int{1, 2, 3, 4}, []int{1, 5, 8}},
		{of(4, 1), []int{1, 2, 3, 4}, []int{1, 2, 3, 5}},
		{of(2, 1), []int{top, top - 1}, []int{top, top}},
		{of(2, 0, top, top), []int{top, top, top, top}, []int{top, top, top, top}},
		{of(1, top), []int{0, top}, []int{top}},
	} {
		if made, e := Apply(x.s, x.at); e != api.OK || !slices.Equal(made, x.want) {
			t.Error(x.s, x.at, made, e)
		}
	}
}

// H1: the time's errors come first, then the summary's, then that a number is too great; beside them nothing is told.
func TestWrongApply(t *testing.T) {
	for _, x := range []struct {
		s    api.Summary
		at   []int
		want api.Errno
	}{
		{of(1, 0), nil, api.ErrLarge},
		{of(1, -1), nil, api.ErrLarge},
		{of(1, 0), []int{0, 0, 0, 0, 0}, api.ErrLarge},
		{of(1, 0), []int{0, -1}, api.ErrArg},
		{of(1, 0), []int{top + 1}, api.ErrArg},
		{of(0, 0), []int{-1}, api.ErrArg},
		{of(2, 0), []int{0}, api.ErrLarge},
		{of(2, -1), []int{0}, api.ErrLarge},
		{of(1, 0, 0, 0, 0, 0), []int{0}, api.ErrLarge},
		{of(4, 0, 0), []int{0, 0, 0, 0}, api.ErrLarge},
		{of(1, -1), []int{1}, api.ErrArg},
		{of(1, 1, -1), []int{top}, api.ErrArg},
		{of(1, 0, top+1), []int{0}, api.ErrArg},
		{of(1, 1), []int{top}, api.ErrOver},
		{of(2, 1), []int{3, top}, api.ErrOver},
		{of(1, 1, 0), []int{top, 0, 0, 0}, api.ErrOver},
		{of(3, top), []int{0, 0, 1}, api.ErrOver},
	} {
		if made, e := Apply(x.s, x.at); e != x.want || len(made) != 0 {
			t.Error(x.s, x.at, made, e, x.want)
		}
	}
}

// H2
func TestThen(t *testing.T) {
	seen := map[api.Errno]int{}
	list := someOnes()
	for _, s := range list {
		for _, r := range list {
			want, code := thenOf(s, r)
			seen[code]++
			if both, e := Then(s, r); e != code || !alike(both, want) {
				t.Fatal(s, r, both, e, want, code)
			}
		}
	}
	for _, e := range []api.Errno{api.OK, api.ErrLarge, api.ErrArg, api.ErrOver} {
		if seen[e] < 1000 {
			t.Error("not all kinds are seen", seen)
		}
	}
}

// H2: what is said here one by one, with the chapter's example.
func TestThenByHand(t *testing.T) {
	for _, x := range []struct{ s, r, want api.Summary }{
		{of(2, 1), of(1, 0, 0), of(1, 0, 0)},
		{of(2, 1), of(1, 5, 6, 7), of(1, 5, 6, 7)},
		{of(4, top), of(3, top, top), of(3, top, top)},
		{of(2, top, 1, 2), of(1, 1), of(1, 1)},
		{of(2, 3, 9), of(2, 4), of(2, 7)},
		{of(2, 3, 9), of(2, 4, 8, 7), of(2, 7, 8, 7)},
		{of(1, top), of(1, 0, top), of(1, top, top)},
		{of(1, 2, 3), of(2, 4), of(1, 2, 7)},
		{of(1, 2, 3, 4, 5), of(2, 10), of(1, 2, 13)},
		{of(1, 2, 3, 4, 5), of(3, 10), of(1, 2, 3, 14)},
		{of(1, 2, 3, 4, 5), of(4, 10), of(1, 2, 3, 4, 15)},
		{of(1, 2, 3, 4, 5), of(2, 10, 6, 7), of(1, 2, 13, 6, 7)},
		{of(2, 1, 0), of(3, top, 8), of(2, 1, top, 8)},
		{of(1, top, top), of(2, 0), of(1, top, top)},
		{of(1, 0, 0), of(1, 0), of(1, 0)},
	} {
		if both, e := Then(x.s, x.r); e != api.OK || !alike(both, x.want) {
			t.Error(x.s, x.r, both, e, x.want)
		}
	}
}

// H2: the errors of s come first, then r's, for as many numbers as s makes, then that a sum is too great; beside them nothing is
// told.
func TestWrongThen(t *testing.T) {
	for _, x := range []struct {
		s, r api.Summary
		want api.Errno
	}{
		{of(0, 0), of(1, -1), api.ErrLarge},
		{of(5, 0), of(1, 0), api.ErrLarge},
		{of(4, 0, 0), of(1, 0), api.ErrLarge},
		{of(math.MinInt, 0), of(1, 0), api.ErrLarge},
		{of(1, -1), of(0, 0), api.ErrArg},
		{of(1, 0, top+1), of(1, 0), api.ErrArg},
		{of(1, 0), of(2, 0), api.ErrLarge},
		{of(1, 0), of(2, -1), api.ErrLarge},
		{of(1, 0, 0), of(3, 0), api.ErrLarge},
		{of(1, 0), of(0, 0), api.ErrLarge},
		{of(1, 0), of(1, 0, 0, 0, 0, 0), api.ErrLarge},
		{of(4, 0), of(4, 0, 0), api.ErrLarge},
		{of(4, 0), of(math.MaxInt, 0), api.ErrLarge},
		{of(1, 0), of(1, -1), api.ErrArg},
		{of(1, top, top), of(2, top+1), api.ErrArg},
		{of(1, top), of(1, 1, -1), api.ErrArg},
		{of(1, 1), of(1, top), api.ErrOver},
		{of(2, top), of(2, top), api.ErrOver},
		{of(4, top), of(4, 1), api.ErrOver},
		{of(1, 0, 1), of(2, top), api.ErrOver},
		{of(1, 0, top, top), of(3, 1, 0), api.ErrOver},
		{of(1, 0, 0, 0, top), of(4, 1), api.ErrOver},
	} {
		if both, e := Then(x.s, x.r); e != x.want || !alike(both, api.Summary{}) {
			t.Error(x.s, x.r, both, e, x.want)
		}
	}
}

// H2: Then makes of a time what r makes of what s makes of it. Where r keeps no fewer than s, both have ErrOver at the same times;
// where it keeps fewer, what s adds is left out, and s alone may have it.
func TestThenDoesBoth(t *testing.T) {
	list := goodOnes(0, 3, top)
	for _, s := range list {
		for _, r := range list {
			both, over := Then(s, r)
			if over != api.OK && over != api.ErrOver {
				continue
			}
			for _, at := range [][]int{{0, 0, 0, 0}, {5, 6, 7, 8}, {top, 0, top - 3, top}, {top - 3, top, top - 2, 1}} {
				at = at[:max(s.Keep, 4-len(s.Push))]
				first, e := Apply(s, at)
				want := []int(nil)
				if e == api.OK {
					want, e = Apply(r, first)
				}
				if over != api.OK {
					if e != api.ErrOver {
						t.Fatal(s, r, at, over, want, e)
					}
					continue
				}
				made, code := Apply(both, at)
				if (e == api.OK || r.Keep >= s.Keep) && (code != e || !slices.Equal(made, want)) {
					t.Fatal(s, r, at, both, made, code, want, e)
				}
			}
		}
	}
}

// H2: of three it doesn't matter which two are put together first; what keeps all and adds nothing does nothing.
func TestThenLaws(t *testing.T) {
	list := goodOnes(0, 2)
	for _, s := range list {
		all := of(s.Keep+len(s.Push), 0)
		if both, e := Then(s, all); e != api.OK || !alike(both, s) {
			t.Fatal(s, all, both, e)
		}
		for in := s.Keep; in <= 4; in++ {
			if both, e := Then(of(in, 0), s); e != api.OK || !alike(both, s) {
				t.Fatal(in, s, both, e)
			}
		}
		for _, r := range list {
			first, e := Then(s, r)
			if e != api.OK {
				continue
			}
			for _, q := range list {
				left, e1 := Then(first, q)
				second, e2 := Then(r, q)
				if e1 != e2 {
					t.Fatal(s, r, q, e1, e2)
				}
				if right, e := Then(s, second); e1 == api.OK && (e != api.OK || !alike(left, right)) {
					t.Fatal(s, r, q, left, right, e)
				}
			}
		}
	}
}
