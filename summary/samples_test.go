package summary

import (
	"math"
	"slices"
	"testing"

	"watershed/api"
)

// top: the greatest number that may be added or put; many: as many summaries as a list may have.
const (
	top  = 1048576
	many = 64
)

// draws are numbers that say nothing of one another, and the same ones each time.
type draws uint32

func (d *draws) to(n int) int {
	*d = *d*1664525 + 1013904223
	return int(*d>>16) % n
}

// number is below n, most of the time, and else as great as may be, or nearly so.
func (d *draws) number(n int) int {
	if d.to(12) == 0 {
		return top - d.to(2)
	}
	return d.to(n)
}

// summary makes times of deep numbers.
func (d *draws) summary(deep, n int) api.Summary {
	s := api.Summary{Keep: 1 + d.to(deep), Add: d.number(n)}
	for range deep - s.Keep {
		s.Push = append(s.Push, d.number(n))
	}
	return s
}

// list has up to most summaries that make times of deep numbers.
func (d *draws) list(most, deep, n int) []api.Summary {
	l := make([]api.Summary, d.to(most+1))
	for i := range l {
		l[i] = d.summary(deep, n)
	}
	return l
}

// of is a summary in one line.
func of(keep, add int, push ...int) api.Summary {
	return api.Summary{Keep: keep, Add: add, Push: push}
}

// allOf are all lists of n of the numbers.
func allOf(n int, numbers ...int) [][]int {
	lists := [][]int{{}}
	for range n {
		var longer [][]int
		for _, l := range lists {
			for _, x := range numbers {
				longer = append(longer, append(slices.Clone(l), x))
			}
		}
		lists = longer
	}
	return lists
}

// making are all summaries that make times of deep numbers, and add and put only some.
func making(deep int, numbers ...int) []api.Summary {
	var list []api.Summary
	for keep := 1; keep <= deep; keep++ {
		for _, l := range allOf(1+deep-keep, numbers...) {
			list = append(list, of(keep, l[0], l[1:]...))
		}
	}
	return list
}

// goodOnes are all summaries that add and put only some numbers.
func goodOnes(numbers ...int) []api.Summary {
	var list []api.Summary
	for deep := 1; deep <= 4; deep++ {
		list = append(list, making(deep, numbers...)...)
	}
	return list
}

// wrongOnes are no summaries: with each field beyond each of its edges, and some with several.
func wrongOnes() []api.Summary {
	list := []api.Summary{{}, {Add: -1}, {Add: top + 1, Push: []int{-1}}}
	for _, keep := range []int{math.MinInt, -4, -1, 0, 5, 6, math.MaxInt} {
		list = append(list, of(keep, 0), of(keep, 1, 1), of(keep, -1), of(keep, 0, 0, 0, 0, 0), of(keep, 0, 0, 0, 0, 0, 0))
	}
	for keep := 1; keep <= 4; keep++ {
		for _, add := range []int{0, -1} {
			list = append(list, of(keep, add, make([]int, 5-keep)...), of(keep, add, make([]int, 1000)...))
		}
		for _, wrong := range []int{math.MinInt, -1, top + 1, math.MaxInt} {
			list = append(list, of(keep, wrong))
			for n := range 5 - keep {
				for at := range n {
					push := make([]int, n)
					push[at] = wrong
					list = append(list, of(keep, 0, push...))
				}
			}
		}
	}
	return list
}

// checkOf: H1's words.
func checkOf(s api.Summary, in int) api.Errno {
	if in < 1 || in > 4 {
		return api.ErrLarge
	}
	if s.Keep < 1 || s.Keep > in {
		return api.ErrLarge
	}
	if s.Keep+len(s.Push) > 4 {
		return api.ErrLarge
	}
	for _, x := range append([]int{s.Add}, s.Push...) {
		if x < 0 || x > top {
			return api.ErrArg
		}
	}
	return api.OK
}

// timeOf: the errors of a time.
func timeOf(t []int) api.Errno {
	if len(t) == 0 || len(t) > 4 {
		return api.ErrLarge
	}
	for _, x := range t {
		if x < 0 || x > top {
			return api.ErrArg
		}
	}
	return api.OK
}

// A place of a time that a summary makes: is the number kept, and what is added to it, or put there?
type place struct {
	kept bool
	x    int
}

// placesOf: H1's words, place by place.
func placesOf(s api.Summary) []place {
	var l []place
	for range s.Keep {
		l = append(l, place{kept: true})
	}
	l[s.Keep-1].x = s.Add
	for _, x := range s.Push {
		l = append(l, place{x: x})
	}
	return l
}

// applyOf: H1's words, with its errors.
func applyOf(s api.Summary, t []int) ([]int, api.Errno) {
	if e := timeOf(t); e != api.OK {
		return nil, e
	}
	if e := checkOf(s, len(t)); e != api.OK {
		return nil, e
	}
	var made []int
	for i, p := range placesOf(s) {
		x := p.x
		if p.kept {
			x += t[i]
		}
		if x > top {
			return nil, api.ErrOver
		}
		made = append(made, x)
	}
	return made, api.OK
}

// thenOf: what r does to the places that s makes, whatever stands there.
func thenOf(s, r api.Summary) (api.Summary, api.Errno) {
	if e := checkOf(s, 4); e != api.OK {
		return api.Summary{}, e
	}
	if e := checkOf(r, s.Keep+len(s.Push)); e != api.OK {
		return api.Summary{}, e
	}
	l := placesOf(s)
	l[r.Keep-1].x += r.Add
	if r.Keep < s.Keep {
		l[s.Keep-1].x = 0 // it is left out
	}
	both := api.Summary{}
	for _, p := range l[:r.Keep] {
		if p.kept {
			both.Keep, both.Add = both.Keep+1, p.x
		} else {
			both.Push = append(both.Push, p.x)
		}
	}
	both.Push = append(both.Push, r.Push...)
	for _, x := range append([]int{both.Add}, both.Push...) {
		if x > top {
			return api.Summary{}, api.ErrOver
		}
	}
	return both, api.OK
}

// leqOf: H3's words.
func leqOf(s, r api.Summary) bool {
	if checkOf(s, 4) != api.OK || checkOf(r, 4) != api.OK {
		return false
	}
	a, b := placesOf(s), placesOf(r)
	if len(a) != len(b) {
		return false
	}
	for i := range a {
		if a[i].kept && !b[i].kept || a[i].x > b[i].x {
			return false
		}
	}
	return true
}

// aheadOf: H4's words of the order.
func aheadOf(s, r api.Summary) bool {
	if s.Keep != r.Keep {
		return s.Keep < r.Keep
	}
	if s.Add != r.Add {
		return s.Add < r.Add
	}
	for i := range s.Push {
		if s.Push[i] != r.Push[i] {
			return s.Push[i] < r.Push[i]
		}
	}
	return false
}

// frontOf: H4's words; each summary is put behind all that come ahead of it.
func frontOf(l []api.Summary) []api.Summary {
	front := []api.Summary{}
	for _, s := range l {
		least, at := true, 0
		for _, x := range l {
			if leqOf(x, s) && !alike(x, s) {
				least = false
			}
		}
		for _, x := range front {
			if alike(x, s) {
				least = false
			}
			if aheadOf(x, s) {
				at++
			}
		}
		if least {
			front = slices.Insert(front, at, s)
		}
	}
	return front
}

// listOf: H4's words of the errors of a list.
func listOf(l []api.Summary) api.Errno {
	if len(l) > many {
		return api.ErrLarge
	}
	for _, s := range l {
		if e := checkOf(s, 4); e != api.OK {
			return e
		}
	}
	for _, s := range l {
		for _, r := range l {
			if s.Keep+len(s.Push) != r.Keep+len(r.Push) {
				return api.ErrForm
			}
		}
	}
	return api.OK
}

// alike tells if two summaries keep, add and put the same.
func alike(s, r api.Summary) bool {
	return s.Keep == r.Keep && s.Add == r.Add && slices.Equal(s.Push, r.Push)
}

// tells holds what Front tells, without an error, against the summaries that it must tell.
func tells(t *testing.T, l, want []api.Summary) {
	t.Helper()
	if f, e := Front(l); e != api.OK || !slices.EqualFunc(f, want, alike) {
		t.Fatal(l, f, e, want)
	}
}

// refuses holds what Front tells against the error that it must tell, with nothing beside it.
func refuses(t *testing.T, l []api.Summary, want api.Errno) {
	t.Helper()
	if f, e := Front(l); e != want || len(f) != 0 {
		t.Fatal(l, f, e, want)
	}
}
