package times

import (
	"slices"
	"testing"

	"watershed/api"
)

// top: the greatest number that a time may have; many: as many times as a list may have.
const (
	top  = 1048576
	many = 64
)

// draws are numbers that say nothing of one another, and the same ones each time.
type draws uint32

func (d *draws) to(n int) int {
	*d = *d*1664525 + 1013904223
	return int(*d>>16) % n
}

// number is below n, most of the time, and else as great as may be, or nearly so.
func (d *draws) number(n int) int {
	if d.to(12) == 0 {
		return top - d.to(2)
	}
	return d.to(n)
}

func (d *draws) time(deep, n int) []int {
	t := make([]int, deep)
	for i := range t {
		t[i] = d.number(n)
	}
	return t
}

// list has up to most times.
func (d *draws) list(most, deep, n int) [][]int {
	ts := make([][]int, d.to(most+1))
	for i := range ts {
		ts[i] = d.time(deep, n)
	}
	return ts
}

// line has n times, of which each has only numbers that are its place.
func line(n, deep int) [][]int {
	ts := make([][]int, n)
	for i := range ts {
		ts[i] = slices.Repeat([]int{i}, deep)
	}
	return ts
}

// apart has n times of two numbers, none of which is Leq to another, in the order of Less.
func apart(n int) [][]int {
	ts := make([][]int, n)
	for i := range ts {
		ts[i] = []int{i, n - 1 - i}
	}
	return ts
}

// backward has the times of a list, the last one first.
func backward(ts [][]int) [][]int {
	ts = slices.Clone(ts)
	slices.Reverse(ts)
	return ts
}

// allOf are all lists of n of the numbers.
func allOf(n int, numbers ...int) [][]int {
	lists := [][]int{{}}
	for range n {
		var longer [][]int
		for _, l := range lists {
			for _, x := range numbers {
				longer = append(longer, append(slices.Clone(l), x))
			}
		}
		lists = longer
	}
	return lists
}

// checkOf: G1's words.
func checkOf(t []int) api.Errno {
	if len(t) == 0 || len(t) > 4 {
		return api.ErrLarge
	}
	for _, x := range t {
		if x < 0 || x > top {
			return api.ErrArg
		}
	}
	return api.OK
}

// pairOf: G1's words of the errors of Join and Meet.
func pairOf(a, b []int) api.Errno {
	if e := checkOf(a); e != api.OK {
		return e
	}
	if e := checkOf(b); e != api.OK {
		return e
	}
	if len(a) != len(b) {
		return api.ErrForm
	}
	return api.OK
}

// leqOf: G1's words.
func leqOf(a, b []int) bool {
	if pairOf(a, b) != api.OK {
		return false
	}
	for i := range a {
		if a[i] > b[i] {
			return false
		}
	}
	return true
}

// lessOf: G1's words.
func lessOf(a, b []int) bool {
	if pairOf(a, b) != api.OK {
		return false
	}
	for i := range a {
		if a[i] != b[i] {
			return a[i] < b[i]
		}
	}
	return false
}

// joinOf and meetOf: G1's words.
func joinOf(a, b []int) []int {
	t := slices.Clone(a)
	for i := range b {
		if b[i] > t[i] {
			t[i] = b[i]
		}
	}
	return t
}

func meetOf(a, b []int) []int {
	t := slices.Clone(a)
	for i := range b {
		if b[i] < t[i] {
			t[i] = b[i]
		}
	}
	return t
}

// listOf: G2's words of the errors of a list.
func listOf(ts [][]int) api.Errno {
	if len(ts) > many {
		return api.ErrLarge
	}
	for _, t := range ts {
		if e := checkOf(t); e != api.OK {
			return e
		}
	}
	for _, a := range ts {
		for _, b := range ts {
			if len(a) != len(b) {
				return api.ErrForm
			}
		}
	}
	return api.OK
}

// listsOf: G3's words of the errors of Before.
func listsOf(f, g [][]int) api.Errno {
	if e := listOf(f); e != api.OK {
		return e
	}
	if e := listOf(g); e != api.OK {
		return e
	}
	for _, a := range f {
		for _, b := range g {
			if len(a) != len(b) {
				return api.ErrForm
			}
		}
	}
	return api.OK
}

// frontOf: G2's words; each time is put behind all that are less.
func frontOf(ts [][]int) [][]int {
	front := [][]int{}
	for _, t := range ts {
		least, at := true, 0
		for _, x := range ts {
			if leqOf(x, t) && !slices.Equal(x, t) {
				least = false
			}
		}
		for _, x := range front {
			if slices.Equal(x, t) {
				least = false
			}
			if lessOf(x, t) {
				at++
			}
		}
		if least {
			front = slices.Insert(front, at, t)
		}
	}
	return front
}

// openOf: G2's words.
func openOf(f [][]int, t []int) bool {
	is := false
	for _, x := range f {
		is = is || leqOf(x, t)
	}
	return is
}

// beforeOf: G3's words.
func beforeOf(f, g [][]int) bool {
	is := true
	for _, t := range g {
		is = is && openOf(f, t)
	}
	return is
}

// joinsOf: G3's words of what Either looks at.
func joinsOf(f, g [][]int) [][]int {
	var list [][]int
	for _, a := range f {
		for _, b := range g {
			list = append(list, joinOf(a, b))
		}
	}
	return list
}

// same tells if two lists have the same times.
func same(f, g [][]int) bool {
	return slices.EqualFunc(f, g, slices.Equal[[]int])
}

// tells holds what a call tells, without an error, against the times that it must tell.
func tells(t *testing.T, what string, l [][]int, e api.Errno, want [][]int) {
	t.Helper()
	if e != api.OK || !same(l, want) {
		t.Fatal(what, l, e, want)
	}
}

// refuses holds what a call tells against the error that it must tell, with nothing beside it.
func refuses(t *testing.T, what string, l [][]int, e, want api.Errno) {
	t.Helper()
	if e != want || len(l) != 0 {
		t.Fatal(what, l, e, want)
	}
}
