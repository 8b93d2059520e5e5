package counts

import (
	"reflect"
	"slices"
	"testing"

	"watershed/api"
)

// answers are what all calls tell of two tallies, a time and a number.
func answers(c, d []api.Count, at []int, n int64) []any {
	more, e1 := Add(c, at, n)
	sum, e2 := Sum(c, d)
	front, e3 := Front(c)
	moves, e4 := Moves(c, d)
	return []any{Check(c), more, sum, front, moves, e1, e2, e3, e4}
}

// longer is a list with more behind its length.
func longer[T any](list []T, behind T) []T {
	return append(slices.Clone(list), behind, behind)[:len(list)]
}

// longerTally is a tally with more behind its length, and behind that of each time.
func longerTally(c []api.Count) []api.Count {
	list := make([]api.Count, len(c))
	for i, x := range c {
		list[i] = of(x.N, longer(x.Time, -7)...)
	}
	return longer(list, of(9, 0, 0))
}

// stays tells if a time with more behind it is what it was.
func stays(at, was []int) bool {
	return len(at) == len(was) && slices.Equal(at[:len(at)+2], append(slices.Clone(was), -7, -7))
}

// staysTally tells if a tally is what it was, also behind its length, and behind that of each time.
func staysTally(c, was []api.Count) bool {
	for i, x := range c {
		if x.N != was[i].N || !stays(x.Time, was[i].Time) {
			return false
		}
	}
	behind := c[len(c) : len(c)+2]
	return len(c) == len(was) && same(behind, []api.Count{of(9, 0, 0), of(9, 0, 0)})
}

// P3: what is handed in, and what lies behind its length, stays as it is and is not looked at.
func TestArgumentsStay(t *testing.T) {
	d := draws(7)
	for round := range 2000 {
		deep := 1 + round%4
		a, b, at, n := d.tally(10, deep, 4), d.tally(10, deep, 4), d.time(deep, 4), d.n(true)
		// The long ones are made ahead of any call that could change the others.
		a2, b2, at2 := longerTally(a), longerTally(b), longer(at, -7)
		told := answers(a2, b2, at2, n)
		if !staysTally(a2, a) || !staysTally(b2, b) || !stays(at2, at) {
			t.Fatal("an argument is changed", a, b, at)
		}
		if !reflect.DeepEqual(answers(a, b, at, n), told) {
			t.Fatal("what lies behind a list is seen", a, b, at)
		}
		if !reflect.DeepEqual(answers(a, b, at, n), told) {
			t.Fatal("not the same again", a, b, at)
		}
	}
}

// spoil writes into all memory of a list of numbers.
func spoil(l []int) {
	l = l[:cap(l)]
	for i := range l {
		l[i] = -9
	}
}

// spoilAll writes into all memory of what a call tells.
func spoilAll(told any) {
	switch l := told.(type) {
	case [][]int:
		for _, t := range l {
			spoil(t)
		}
		clear(l[:cap(l)])
	case []api.Count:
		for _, x := range l {
			spoil(x.Time)
		}
		clear(l[:cap(l)])
	}
}

// P3: what is told is new each time, also where it is just what was handed in.
func TestAnswersAreNew(t *testing.T) {
	for _, x := range []struct {
		c, d []api.Count
		at   []int
		n    int64
	}{
		{[]api.Count{of(1, 0, 2), of(1, 1, 0)}, []api.Count{of(1, 0, 3), of(-2, 1, 0)}, []int{5, 5}, 1},
		{[]api.Count{of(1, 0, 2), of(1, 1, 0)}, nil, []int{1, 0}, 0},
		{nil, []api.Count{of(1, 0, 2), of(1, 1, 0)}, []int{1, 0}, 4},
		{[]api.Count{of(1, 0, 2), of(1, 1, 0)}, []api.Count{of(1, 0, 2), of(1, 1, 0)}, []int{1, 0}, -1},
	} {
		want := answers(x.c, x.d, x.at, x.n)
		c, d, at := longerTally(x.c), longerTally(x.d), longer(x.at, -7)
		for _, told := range answers(c, d, at, x.n) {
			spoilAll(told)
		}
		if !staysTally(c, x.c) || !staysTally(d, x.d) || !stays(at, x.at) || !reflect.DeepEqual(answers(c, d, at, x.n), want) {
			t.Error("an answer shares memory", x)
		}
	}
}

// P3: no two times of an answer share memory, also where one and the same list was handed in many times.
func TestTimesShareNothing(t *testing.T) {
	row := []int{0, 5, 6, 0}
	c, d := []api.Count{of(1, row[:2]...), of(1, row[2:]...)}, []api.Count{of(1, row[:2]...), of(2, row[2:]...)}
	none := []api.Count{of(-1, row[:2]...)}
	front, _ := Front(c)
	more, _ := Add(c, row[2:], 1)
	sum, _ := Sum(c, d)
	moves, _ := Moves(none, c)
	for _, ts := range [][][]int{front, timesOf(more), timesOf(sum), timesOf(moves)} {
		if !slices.EqualFunc(ts, [][]int{{0, 5}, {6, 0}}, slices.Equal[[]int]) {
			t.Fatal(ts)
		}
		spoil(ts[0])
		if !slices.Equal(ts[1], []int{6, 0}) {
			t.Error("two times share memory", ts)
		}
	}
	if !slices.Equal(row, []int{0, 5, 6, 0}) {
		t.Error("an answer shares memory", row)
	}
}
