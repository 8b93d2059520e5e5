package counts

import (
	"slices"
	"testing"

	"watershed/api"
)

// top: the greatest number that a time may have; many: as many counts as a tally may have; most: the greatest count.
const (
	top        = 1048576
	many       = 64
	most int64 = 1099511627776
)

// draws are numbers that say nothing of one another, and the same ones each time.
type draws uint32

func (d *draws) to(n int) int {
	*d = *d*1664525 + 1013904223
	return int(*d>>16) % n
}

// n is a count: a small one, most of the time, and else as great as may be, or nearly so.
func (d *draws) n(zero bool) int64 {
	for {
		n := int64(d.to(7) - 3)
		if d.to(8) == 0 {
			n = (most - int64(d.to(3))) * int64(1-2*d.to(2))
		}
		if n != 0 || zero {
			return n
		}
	}
}

func (d *draws) time(deep, n int) []int {
	t := make([]int, deep)
	for i := range t {
		t[i] = d.to(n)
		if d.to(12) == 0 {
			t[i] = top - d.to(2)
		}
	}
	return t
}

// tally has up to size counts, of times whose numbers are below n, most of the time.
func (d *draws) tally(size, deep, n int) []api.Count {
	var c []api.Count
	for range d.to(size + 1) {
		if t := d.time(deep, n); nOf(c, t) == 0 {
			c = insert(c, of(d.n(false), t...))
		}
	}
	return c
}

// of is n of a time.
func of(n int64, t ...int) api.Count { return api.Count{Time: t, N: n} }

// line has n counts, of times that have one number alone, time and again: the first one has from, each other one more.
func line(from, n, deep int) []api.Count {
	c := make([]api.Count, n)
	for i := range c {
		c[i] = of(1, slices.Repeat([]int{from + i}, deep)...)
	}
	return c
}

// apart has n counts, of times none of which is Leq to another one.
func apart(from, n int) []api.Count {
	c := make([]api.Count, n)
	for i := range c {
		c[i] = of(1, from+i, top-from-i)
	}
	return c
}

// with has n in place of each count.
func with(c []api.Count, n int64) []api.Count {
	c = slices.Clone(c)
	for i := range c {
		c[i].N = n
	}
	return c
}

// tallies are all tallies that have of each of some times one of some counts, or none of it.
func tallies(ts [][]int, ns ...int64) [][]api.Count {
	list := [][]api.Count{nil}
	for _, t := range ts {
		for _, c := range list {
			for _, n := range ns {
				list = append(list, append(slices.Clone(c), of(n, t...)))
			}
		}
	}
	return list
}

// timeOf: G1's words of a time's error.
func timeOf(t []int) api.Errno {
	if len(t) == 0 || len(t) > 4 {
		return api.ErrLarge
	}
	for _, x := range t {
		if x < 0 || x > top {
			return api.ErrArg
		}
	}
	return api.OK
}

// leqOf: G1's words, of times with as many numbers.
func leqOf(a, b []int) bool {
	for i := range a {
		if a[i] > b[i] {
			return false
		}
	}
	return true
}

// lessOf: G1's words, of times with as many numbers.
func lessOf(a, b []int) bool {
	for i := range a {
		if a[i] != b[i] {
			return a[i] < b[i]
		}
	}
	return false
}

// checkOf: K1's words.
func checkOf(c []api.Count) api.Errno {
	if len(c) > many {
		return api.ErrLarge
	}
	for _, x := range c {
		if e := timeOf(x.Time); e != api.OK {
			return e
		}
	}
	for _, x := range c {
		for _, y := range c {
			if len(x.Time) != len(y.Time) {
				return api.ErrForm
			}
		}
	}
	for i := range c {
		if i+1 < len(c) && !lessOf(c[i].Time, c[i+1].Time) {
			return api.ErrForm
		}
	}
	for _, x := range c {
		if x.N < -most || x.N > most || x.N == 0 {
			return api.ErrArg
		}
	}
	return api.OK
}

// bothOf: K2's words of the errors that Sum and Moves tell of what is handed in.
func bothOf(c, d []api.Count) api.Errno {
	if e := checkOf(c); e != api.OK {
		return e
	}
	if e := checkOf(d); e != api.OK {
		return e
	}
	for _, x := range c {
		for _, y := range d {
			if len(x.Time) != len(y.Time) {
				return api.ErrForm
			}
		}
	}
	return api.OK
}

// nOf is how many a tally has of a time.
func nOf(c []api.Count, t []int) int64 {
	for _, x := range c {
		if slices.Equal(x.Time, t) {
			return x.N
		}
	}
	return 0
}

// insert puts a count behind all those with lesser times.
func insert(c []api.Count, x api.Count) []api.Count {
	at := 0
	for _, y := range c {
		if lessOf(y.Time, x.Time) {
			at++
		}
	}
	return slices.Insert(c, at, x)
}

// sumOf: K2's words.
func sumOf(c, d []api.Count) ([]api.Count, api.Errno) {
	if e := bothOf(c, d); e != api.OK {
		return nil, e
	}
	var sum []api.Count
	for _, x := range slices.Concat(c, d) {
		n := nOf(c, x.Time) + nOf(d, x.Time)
		if n < -most || n > most {
			return nil, api.ErrOver
		}
		if n != 0 && nOf(sum, x.Time) == 0 {
			sum = insert(sum, of(n, x.Time...))
		}
	}
	if len(sum) > many {
		return nil, api.ErrLarge
	}
	return sum, api.OK
}

// addOf: K2's words.
func addOf(c []api.Count, t []int, n int64) ([]api.Count, api.Errno) {
	if e := checkOf(c); e != api.OK {
		return nil, e
	}
	if e := timeOf(t); e != api.OK {
		return nil, e
	}
	if len(c) > 0 && len(c[0].Time) != len(t) {
		return nil, api.ErrForm
	}
	if n < -most || n > most {
		return nil, api.ErrArg
	}
	var more []api.Count
	for _, x := range c {
		if !slices.Equal(x.Time, t) {
			more = append(more, x)
		}
	}
	now := nOf(c, t) + n
	if now < -most || now > most {
		return nil, api.ErrOver
	}
	if now != 0 {
		more = insert(more, of(now, t...))
	}
	if len(more) > many {
		return nil, api.ErrLarge
	}
	return more, api.OK
}

// frontOf: K3's words, and G2's; as a tally that has each time once.
func frontOf(c []api.Count) []api.Count {
	var front []api.Count
	for _, x := range c {
		least := x.N > 0
		for _, y := range c {
			if y.N > 0 && !slices.Equal(x.Time, y.Time) && leqOf(y.Time, x.Time) {
				least = false
			}
		}
		if least {
			front = insert(front, of(1, x.Time...))
		}
	}
	return front
}

// movesOf: K3's words.
func movesOf(c, d []api.Count) ([]api.Count, api.Errno) {
	if e := bothOf(c, d); e != api.OK {
		return nil, e
	}
	was, is := frontOf(c), frontOf(d)
	var moves []api.Count
	for _, x := range was {
		if nOf(is, x.Time) == 0 {
			moves = insert(moves, of(-1, x.Time...))
		}
	}
	for _, x := range is {
		if nOf(was, x.Time) == 0 {
			moves = insert(moves, of(1, x.Time...))
		}
	}
	if len(moves) > many {
		return nil, api.ErrLarge
	}
	return moves, api.OK
}

// timesOf are the times of a tally.
func timesOf(c []api.Count) [][]int {
	ts := make([][]int, len(c))
	for i, x := range c {
		ts[i] = x.Time
	}
	return ts
}

// same tells if two lists have the same counts.
func same(c, d []api.Count) bool {
	return slices.EqualFunc(c, d, func(x, y api.Count) bool { return x.N == y.N && slices.Equal(x.Time, y.Time) })
}

// tells holds what a call tells against the counts and the error that it must tell.
func tells(t *testing.T, what string, c, d []api.Count, l []api.Count, e api.Errno, want []api.Count, code api.Errno) {
	t.Helper()
	if e != code || !same(l, want) {
		t.Fatal(what, c, d, "told", l, e, "not", want, code)
	}
}

// tellsFront holds what Front tells of a tally against the words.
func tellsFront(t *testing.T, c []api.Count) {
	t.Helper()
	var want []api.Count
	code := checkOf(c)
	if code == api.OK {
		want = frontOf(c)
	}
	f, e := Front(c)
	if e != code || !slices.EqualFunc(f, timesOf(want), slices.Equal[[]int]) {
		t.Fatal("Front", c, "told", f, e, "not", want, code)
	}
}

// tellsBoth holds what Sum and Moves tell of two tallies against the words, and tells the errors that they must tell.
func tellsBoth(t *testing.T, c, d []api.Count) [2]api.Errno {
	t.Helper()
	want, e1 := sumOf(c, d)
	l, e := Sum(c, d)
	tells(t, "Sum", c, d, l, e, want, e1)
	want, e2 := movesOf(c, d)
	l, e = Moves(c, d)
	tells(t, "Moves", c, d, l, e, want, e2)
	return [2]api.Errno{e1, e2}
}

// tellsAdd holds what Add tells against the words, and tells the error that it must tell.
func tellsAdd(t *testing.T, c []api.Count, at []int, n int64) api.Errno {
	t.Helper()
	want, code := addOf(c, at, n)
	l, e := Add(c, at, n)
	tells(t, "Add", c, []api.Count{of(n, at...)}, l, e, want, code)
	return code
}
