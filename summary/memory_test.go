package summary

import (
	"reflect"
	"slices"
	"testing"

	"watershed/api"
)

// answers are what all calls tell of a list, two summaries and a time.
func answers(l []api.Summary, s, r api.Summary, at []int) []any {
	made, e1 := Apply(s, at)
	both, e2 := Then(s, r)
	front, e3 := Front(l)
	return []any{Check(s, len(at)), Leq(s, r), made, both, front, e1, e2, e3}
}

// longer is a list with more behind its length.
func longer[T any](list []T, behind T) []T {
	return append(slices.Clone(list), behind, behind)[:len(list)]
}

// longerPush is a summary with more behind what it puts.
func longerPush(s api.Summary) api.Summary {
	s.Push = longer(s.Push, -7)
	return s
}

// longerList is a list with more behind its length, and behind what each summary puts.
func longerList(l []api.Summary) []api.Summary {
	list := make([]api.Summary, len(l))
	for i, s := range l {
		list[i] = longerPush(s)
	}
	return longer(list, api.Summary{Keep: 1})
}

// stays tells if numbers with more behind them are what they were.
func stays(list, was []int) bool {
	return len(list) == len(was) && slices.Equal(list[:len(list)+2], append(slices.Clone(was), -7, -7))
}

// staysList tells if a list is what it was, also behind its length, and behind what each summary puts.
func staysList(l, was []api.Summary) bool {
	for i, s := range l {
		if s.Keep != was[i].Keep || s.Add != was[i].Add || !stays(s.Push, was[i].Push) {
			return false
		}
	}
	behind := l[len(l) : len(l)+2]
	return len(l) == len(was) && slices.EqualFunc(behind, []api.Summary{{Keep: 1}, {Keep: 1}}, alike)
}

// P3: what is handed in, and what lies behind its length, stays as it is and is not looked at.
func TestArgumentsStay(t *testing.T) {
	d := draws(6)
	for round := range 3000 {
		deep := 1 + round%4
		l, s, r := d.list(10, deep, 4), d.summary(deep, 4), d.summary(deep, 4)
		at := []int{1, 2, 3, 4}[:1+d.to(4)]
		// The long ones are made ahead of any call that could change the others.
		l2, s2, r2, at2 := longerList(l), longerPush(s), longerPush(r), longer(at, -7)
		told := answers(l2, s2, r2, at2)
		if !staysList(l2, l) || !stays(s2.Push, s.Push) || !stays(r2.Push, r.Push) || !stays(at2, at) {
			t.Fatal("an argument is changed", l, s, r, at)
		}
		if !reflect.DeepEqual(answers(l, s, r, at), told) {
			t.Fatal("what lies behind a list is seen", l, s, r, at)
		}
		if !reflect.DeepEqual(answers(l, s, r, at), told) {
			t.Fatal("not the same again", l, s, r, at)
		}
	}
}

// spoil writes into all memory of a list of numbers.
func spoil(l []int) {
	l = l[:cap(l)]
	for i := range l {
		l[i] = -9
	}
}

// P3: what is told is new each time, also where it is just what was handed in.
func TestAnswersAreNew(t *testing.T) {
	for _, x := range []struct{ s, r api.Summary }{
		{of(2, 0, 5), of(1, 0, 6, 7)},
		{of(2, 0, 5), of(2, 0, 6, 7)},
		{of(2, 0, 5), of(3, 0, 6)},
		{of(1, 0, 5, 6), of(3, 0)},
		{of(1, 0, 5, 6), of(2, 0)},
	} {
		l := []api.Summary{x.s}
		at := []int{1, 2, 3}
		want := answers(l, longerPush(x.s), longerPush(x.r), at)
		for _, told := range answers(l, x.s, x.r, at) {
			switch y := told.(type) {
			case []int:
				spoil(y)
			case api.Summary:
				spoil(y.Push)
			case []api.Summary:
				spoil(y[0].Push)
				clear(y[:cap(y)])
			}
		}
		if !reflect.DeepEqual(answers(l, x.s, x.r, at), want) {
			t.Error("an answer shares memory", x)
		}
	}
}

// P3: no two summaries of a front share memory, also where what they put was handed in as one list.
func TestSummariesShareNothing(t *testing.T) {
	row := []int{0, 5, 5, 0}
	want := []api.Summary{of(1, 0, 0, 5), of(1, 0, 5, 0)}
	for range 2 {
		l := []api.Summary{of(1, 0, row[:2]...), of(1, 0, row[2:]...), of(1, 0, row[:2]...)}
		front, e := Front(l)
		if e != api.OK || !slices.EqualFunc(front, want, alike) {
			t.Fatal(front, e)
		}
		spoil(front[0].Push)
		if !slices.Equal(front[1].Push, []int{5, 0}) {
			t.Error("two summaries share memory", front)
		}
		spoil(front[1].Push)
	}
}

// P3: that nothing is put may be said by nil or by an empty list.
func TestNothingPut(t *testing.T) {
	for _, empty := range [][]int{nil, {}, make([]int, 0, 2)} {
		s := api.Summary{Keep: 2, Add: 1, Push: empty}
		if !Leq(s, of(2, 1)) || !Leq(of(2, 1), s) {
			t.Error("Leq", s)
		}
		tells(t, []api.Summary{of(2, 1), s, of(2, 1)}, []api.Summary{of(2, 1)})
		if both, e := Then(s, s); e != api.OK || !alike(both, of(2, 2)) {
			t.Error("Then", s, both, e)
		}
	}
}
