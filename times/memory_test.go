package times

import (
	"reflect"
	"slices"
	"testing"
)

// answers are what all calls tell of two lists and two times.
func answers(f, g [][]int, a, b []int) []any {
	j, e1 := Join(a, b)
	m, e2 := Meet(a, b)
	front, e3 := Front(f)
	is, e4 := Before(f, g)
	both, e5 := Both(f, g)
	either, e6 := Either(f, g)
	return []any{Check(a), Leq(a, b), Less(a, b), Open(f, b), is, j, m, front, both, either, e1, e2, e3, e4, e5, e6}
}

// longer is a list with more behind its length.
func longer[T any](list []T, behind T) []T {
	return append(slices.Clone(list), behind, behind)[:len(list)]
}

// longerTimes is a list of times with more behind its length, and behind that of each time.
func longerTimes(ts [][]int) [][]int {
	list := make([][]int, len(ts))
	for i, t := range ts {
		list[i] = longer(t, -7)
	}
	return longer(list, []int{0, 0})
}

// stays tells if a list is what it was, also behind its length, and behind that of each time.
func stays(list, was [][]int) bool {
	for i, t := range list {
		if !slices.Equal(t[:len(t)+2], append(slices.Clone(was[i]), -7, -7)) {
			return false
		}
	}
	behind := list[len(list) : len(list)+2]
	return len(list) == len(was) && same(behind, [][]int{{0, 0}, {0, 0}})
}

// P3: what is handed in, and what lies behind its length, stays as it is and is not looked at.
func TestArgumentsStay(t *testing.T) {
	d := draws(9)
	for round := range 2000 {
		deep := 1 + round%4
		f, g := d.list(10, deep, 4), d.list(6, deep, 4)
		a, b := d.time(deep, 4), d.time(deep, 4)
		// The long ones are made, and held against the others, ahead of any call that could change these.
		f2, g2, a2, b2 := longerTimes(f), longerTimes(g), longer(a, -7), longer(b, -7)
		told := answers(f2, g2, a2, b2)
		if !stays(f2, f) || !stays(g2, g) {
			t.Fatal("a list is changed", f, g, f2, g2)
		}
		if !slices.Equal(a2[:deep+2], append(slices.Clone(a), -7, -7)) || !slices.Equal(b2[:deep+2], append(slices.Clone(b), -7, -7)) {
			t.Fatal("a time is changed", a, b, a2, b2)
		}
		if !reflect.DeepEqual(answers(f, g, a, b), told) {
			t.Fatal("what lies behind a list is seen", f, g, a, b)
		}
		if !reflect.DeepEqual(answers(f, g, a, b), told) {
			t.Fatal("not the same again", f, g, a, b)
		}
	}
}

// spoil writes into all memory of a list of times.
func spoil(ts [][]int) {
	for _, t := range ts[:cap(ts)] {
		t = t[:cap(t)]
		for i := range t {
			t[i] = -9
		}
	}
	clear(ts[:cap(ts)])
}

// P3: what is told is new each time, also where it is just what was handed in.
func TestAnswersAreNew(t *testing.T) {
	f, g := [][]int{{0, 5}, {2, 2}, {6, 0}}, [][]int{{0, 5}, {1, 3}}
	a, b := []int{1, 1}, []int{1, 1}
	want := answers(f, g, a, b)
	for _, x := range answers(f, g, a, b) {
		switch l := x.(type) {
		case []int:
			spoil([][]int{l})
		case [][]int:
			spoil(l)
		}
	}
	if !reflect.DeepEqual(answers(f, g, a, b), want) || !same(f, [][]int{{0, 5}, {2, 2}, {6, 0}}) || !same(g, [][]int{{0, 5}, {1, 3}}) {
		t.Error("an answer shares memory")
	}
	if !slices.Equal(a, []int{1, 1}) || !slices.Equal(b, []int{1, 1}) {
		t.Error("an answer shares memory", a, b)
	}
}

// P3: no two times of an answer share memory, also where one and the same list was handed in many times.
func TestTimesShareNothing(t *testing.T) {
	x, y := []int{0, 5}, []int{6, 0}
	row := []int{0, 5, 6, 0}
	for _, f := range [][][]int{{x, y, x, y}, {row[:2], row[2:], row[:2]}} {
		front, _ := Front(f)
		both, _ := Both(f, f)
		either, _ := Either(f, f)
		for _, ts := range [][][]int{front, both, either} {
			if !same(ts, [][]int{{0, 5}, {6, 0}}) {
				t.Fatal(ts)
			}
			spoil(ts[:1:1])
			if ts[0] != nil || !slices.Equal(ts[1], []int{6, 0}) {
				t.Error("two times share memory", ts)
			}
		}
	}
	if !slices.Equal(x, []int{0, 5}) || !slices.Equal(y, []int{6, 0}) || !slices.Equal(row, []int{0, 5, 6, 0}) {
		t.Error("an answer shares memory", x, y, row)
	}
}
