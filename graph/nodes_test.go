package graph

import (
	"math"
	"slices"
	"testing"

	"watershed/api"
	"watershed/summary"
)

// alike tells if two summaries keep, add and put the same.
func alike(s, r api.Summary) bool {
	return s.Keep == r.Keep && s.Add == r.Add && slices.Equal(s.Push, r.Push)
}

// I1: what each node that may be does.
func TestSum(t *testing.T) {
	list := []struct {
		n    api.Node
		want api.Summary
	}{
		{input, api.Summary{Keep: 1}},
		{enter(1), api.Summary{Keep: 1, Push: []int{0}}},
		{enter(2), api.Summary{Keep: 2, Push: []int{0}}},
		{enter(3), api.Summary{Keep: 3, Push: []int{0}}},
		{leave(2), api.Summary{Keep: 1}},
		{leave(3), api.Summary{Keep: 2}},
		{leave(4), api.Summary{Keep: 3}},
		{feed(2), api.Summary{Keep: 2, Add: 1}},
		{feed(3), api.Summary{Keep: 3, Add: 1}},
		{feed(4), api.Summary{Keep: 4, Add: 1}},
	}
	for deep := 1; deep <= 4; deep++ {
		for _, n := range []api.Node{one(deep), two(deep)} {
			list = append(list, struct {
				n    api.Node
				want api.Summary
			}{n, api.Summary{Keep: deep}})
		}
	}
	for _, x := range list {
		// What the operator is, nobody asks.
		for _, op := range []api.Op{{}, {Kind: api.OMap, A: 1, B: 2}, {Kind: -7}, {Kind: math.MaxInt, A: math.MinInt64}} {
			x.n.Op = op
			if s, e := Sum(x.n); e != api.OK || !alike(s, x.want) {
				t.Error(x.n, s, e)
			}
		}
	}
}

// I1: what is done to a time, by the words.
func TestSumOfTimes(t *testing.T) {
	row := []int{5, 0, 7, 3}
	for kind := api.NInput; kind <= api.NFeed; kind++ {
		for deep := 1; deep <= 4; deep++ {
			s, e := Sum(api.Node{Kind: kind, Deep: deep})
			if e != api.OK {
				continue
			}
			want := slices.Clone(row[:deep])
			switch kind {
			case api.NEnter:
				want = append(want, 0)
			case api.NLeave:
				want = want[:deep-1]
			case api.NFeed:
				want[deep-1]++
			}
			if made, e := summary.Apply(s, row[:deep]); e != api.OK || !slices.Equal(made, want) {
				t.Error(kind, deep, made, e)
			}
		}
	}
}

// I1: nodes that may not be; beside the error nothing is told.
func TestWrongNodes(t *testing.T) {
	seen := map[api.Errno]int{}
	for _, kind := range []int{math.MinInt, -1, 0, 1, 2, 3, 4, 5, 6, 7, 8, math.MaxInt} {
		for _, deep := range []int{math.MinInt, -4, -1, 0, 1, 2, 3, 4, 5, 6, math.MaxInt} {
			n := api.Node{Kind: kind, Deep: deep}
			s, e := Sum(n)
			seen[e]++
			if mayOf(n) != (e == api.OK) || e != api.OK && (e != api.ErrArg || s.Keep != 0 || s.Add != 0 || s.Push != nil) {
				t.Error(n, s, e)
			}
		}
	}
	if seen[api.OK] != 18 {
		t.Error("not all kinds are seen", seen)
	}
}
