package times

import (
	"fmt"
	"slices"
	"testing"

	"watershed/api"
)

// smallLists are all lists of up to 3 times with two numbers, each below 3.
func smallLists() [][][]int {
	grid := allOf(2, 0, 1, 2)
	var lists [][][]int
	for n := range 4 {
		for _, places := range allOf(n, 0, 1, 2, 3, 4, 5, 6, 7, 8) {
			ts := make([][]int, n)
			for i, at := range places {
				ts[i] = grid[at]
			}
			lists = append(lists, ts)
		}
	}
	return lists
}

// mixedLists have times of all lengths, few ones and many, of numbers that are often the same and of such that seldom are.
func mixedLists(most int) [][][]int {
	d := draws(5)
	var lists [][][]int
	for round := range 2000 {
		lists = append(lists, d.list(most, 1+round%4, []int{2, 5, 40, top + 1}[round/4%4]))
	}
	return lists
}

// G2
func TestFront(t *testing.T) {
	great := 0
	for _, ts := range append(smallLists(), mixedLists(many)...) {
		f, e := Front(ts)
		tells(t, fmt.Sprint("Front", ts), f, e, frontOf(ts))
		if len(f) > 10 {
			great++
		}
		again, e := Front(f)
		tells(t, fmt.Sprint("Front again", ts), again, e, f)
	}
	if great < 50 {
		t.Error("not all kinds are seen", great)
	}
}

// G2: what is said here one by one, with the chapter's example.
func TestFrontByHand(t *testing.T) {
	for _, x := range []struct{ ts, want [][]int }{
		{nil, nil},
		{[][]int{}, nil},
		{[][]int{{7}}, [][]int{{7}}},
		{[][]int{{7}, {7}, {7}}, [][]int{{7}}},
		{[][]int{{9}, {7}, {8}, {7}}, [][]int{{7}}},
		{[][]int{{2, 0}, {0, 3}, {1, 3}}, [][]int{{0, 3}, {2, 0}}},
		{[][]int{{1, 1}, {0, 2}, {2, 0}}, [][]int{{0, 2}, {1, 1}, {2, 0}}},
		{[][]int{{1, 1}, {0, 2}, {2, 0}, {0, 0}}, [][]int{{0, 0}}},
		{[][]int{{2, 10}, {10, 2}}, [][]int{{2, 10}, {10, 2}}},
		{[][]int{{10, 2}, {2, 10}, {10, 2}}, [][]int{{2, 10}, {10, 2}}},
		{[][]int{{0, 0, 0, 1}, {0, 0, 1, 0}, {0, 1, 0, 0}, {1, 0, 0, 0}}, [][]int{{0, 0, 0, 1}, {0, 0, 1, 0}, {0, 1, 0, 0}, {1, 0, 0, 0}}},
		{[][]int{{top, 0}, {0, top}, {top, top}}, [][]int{{0, top}, {top, 0}}},
		{apart(many), apart(many)},
		{backward(apart(many)), apart(many)},
		{backward(line(many, 4)), [][]int{{0, 0, 0, 0}}},
		{slices.Repeat([][]int{{5, 6}}, many), [][]int{{5, 6}}},
	} {
		f, e := Front(x.ts)
		tells(t, fmt.Sprint("Front", x.ts), f, e, x.want)
	}
}

// G2, of more than may be in a list.
func TestLeastOfMany(t *testing.T) {
	for _, x := range []struct{ ts, want [][]int }{
		{nil, nil},
		{backward(apart(many + 1)), apart(many + 1)},
		{slices.Repeat(backward(apart(200)), 2), apart(200)},
		{backward(line(300, 4)), [][]int{{0, 0, 0, 0}}},
	} {
		if l := Least(x.ts); !same(l, x.want) {
			t.Error(x.ts, l)
		}
	}
}

// G2
func TestOpen(t *testing.T) {
	d := draws(6)
	seen := map[bool]int{}
	for _, f := range append(smallLists(), mixedLists(12)...) {
		for _, at := range append(allOf(2, 0, 1, 2, 3), d.time(1, 20), d.time(2, 20), d.time(3, 20), d.time(4, 20)) {
			is := Open(f, at)
			seen[is]++
			if is != openOf(f, at) {
				t.Fatal(f, at, is)
			}
			front, _ := Front(f)
			if is != Open(front, at) {
				t.Fatal(f, front, at, is)
			}
		}
	}
	if seen[true] < 1000 || seen[false] < 1000 {
		t.Error("not all kinds are seen", seen)
	}
}

// G2: what is no time, and what has another number of numbers, counts for nothing; nor is a list too long here.
func TestOpenByHand(t *testing.T) {
	for _, x := range []struct {
		f    [][]int
		at   []int
		want bool
	}{
		{nil, []int{0}, false},
		{[][]int{{0, 3}, {2, 0}}, []int{1, 4}, true},
		{[][]int{{0, 3}, {2, 0}}, []int{1, 2}, false},
		{[][]int{{0, 3}, {2, 0}}, []int{2, 0}, true},
		{[][]int{{0, 3}, {2, 0}}, []int{2}, false},
		{[][]int{{0, 3}, {2, 0}}, nil, false},
		{[][]int{{0}}, []int{-1}, false},
		{[][]int{{-1}}, []int{-1}, false},
		{[][]int{{-1}}, []int{0}, false},
		{[][]int{{0}}, []int{top + 1}, false},
		{[][]int{{0}}, []int{top}, true},
		{[][]int{{}, nil}, []int{}, false},
		{[][]int{{0, 0, 0, 0, 0}}, []int{0, 0, 0, 0, 0}, false},
		{[][]int{{-1}, nil, {0, 0}, {top + 1}, {3}}, []int{3}, true},
		{[][]int{{-1}, nil, {0, 0}, {top + 1}, {4}}, []int{3}, false},
		{line(1000, 1)[999:], []int{999}, true},
		{backward(line(1000, 2)), []int{0, 0}, true},
		{backward(line(1000, 2)[1:]), []int{0, 5}, false},
	} {
		if is := Open(x.f, x.at); is != x.want {
			t.Error(x.f, x.at, is)
		}
	}
}

// pairsOfLists are lists of times that have as many numbers.
func pairsOfLists() [][2][][]int {
	var pairs [][2][][]int
	small := smallLists()[:91]
	for _, f := range small {
		for _, g := range small {
			pairs = append(pairs, [2][][]int{f, g})
		}
	}
	d := draws(7)
	for round := range 3000 {
		deep, n := 1+round%4, []int{2, 5, 40, top + 1}[round/4%4]
		pairs = append(pairs, [2][][]int{d.list(8, deep, n), d.list(8, deep, n)})
	}
	return pairs
}

// G3
func TestTwoLists(t *testing.T) {
	seen := map[bool]int{}
	for _, pair := range pairsOfLists() {
		f, g := pair[0], pair[1]
		is, e := Before(f, g)
		if e != api.OK || is != beforeOf(f, g) {
			t.Fatal(f, g, is, e)
		}
		seen[is]++
		both, e := Both(f, g)
		tells(t, fmt.Sprint("Both", f, g), both, e, frontOf(slices.Concat(f, g)))
		either, e := Either(f, g)
		tells(t, fmt.Sprint("Either", f, g), either, e, frontOf(joinsOf(f, g)))
	}
	if seen[true] < 500 || seen[false] < 500 {
		t.Error("not all kinds are seen", seen)
	}
}

// G3: what is open in Both is open in one list or the other, what is open in Either is open in both; Before is when the one that
// comes later opens nothing that the other doesn't.
func TestWhatIsOpen(t *testing.T) {
	grid := allOf(2, 0, 1, 2)
	small := smallLists()[:91]
	for _, f := range small {
		for _, g := range small {
			both, _ := Both(f, g)
			either, _ := Either(f, g)
			before := true
			for _, at := range grid {
				x, y := Open(f, at), Open(g, at)
				if Open(both, at) != (x || y) || Open(either, at) != (x && y) {
					t.Fatal(f, g, at)
				}
				before = before && (x || !y)
			}
			if is, e := Before(f, g); e != api.OK || is != before {
				t.Fatal(f, g, is, e)
			}
		}
	}
}

// G3: what is said here one by one.
func TestTwoListsByHand(t *testing.T) {
	for _, x := range []struct {
		f, g         [][]int
		before       bool
		both, either [][]int
	}{
		{nil, nil, true, nil, nil},
		{[][]int{{1}}, nil, true, [][]int{{1}}, nil},
		{nil, [][]int{{1}}, false, [][]int{{1}}, nil},
		{[][]int{{1}}, [][]int{{2}}, true, [][]int{{1}}, [][]int{{2}}},
		{[][]int{{2}}, [][]int{{1}}, false, [][]int{{1}}, [][]int{{2}}},
		{[][]int{{1}, {9}}, [][]int{{1}, {1}}, true, [][]int{{1}}, [][]int{{1}}},
		{[][]int{{0, 3}, {2, 0}}, [][]int{{2, 2}}, true, [][]int{{0, 3}, {2, 0}}, [][]int{{2, 2}}},
		{[][]int{{0, 3}, {2, 0}}, [][]int{{1, 1}}, false, [][]int{{0, 3}, {1, 1}, {2, 0}}, [][]int{{1, 3}, {2, 1}}},
		{[][]int{{0, 3}, {2, 0}}, [][]int{{2, 2}, {1, 1}}, false, [][]int{{0, 3}, {1, 1}, {2, 0}}, [][]int{{1, 3}, {2, 1}}},
		{[][]int{{0, top}}, [][]int{{top, 0}}, false, [][]int{{0, top}, {top, 0}}, [][]int{{top, top}}},
		{[][]int{{5, 5}, {2, 0}}, [][]int{{0, 1}}, false, [][]int{{0, 1}, {2, 0}}, [][]int{{2, 1}}},
	} {
		if is, e := Before(x.f, x.g); e != api.OK || is != x.before {
			t.Error(x.f, x.g, is, e)
		}
		both, e := Both(x.f, x.g)
		tells(t, fmt.Sprint("Both", x.f, x.g), both, e, x.both)
		either, e := Either(x.f, x.g)
		tells(t, fmt.Sprint("Either", x.f, x.g), either, e, x.either)
	}
}

// G3: how many times two lists may have, for Both in all, and for Either one with each of the other; the same time counts each
// time that it comes. Before asks only how many each list has.
func TestHowMany(t *testing.T) {
	for n := range many + 1 {
		for m := range many + 1 {
			f, g := line(n, 2), line(m, 2)
			if n%2 == 1 {
				f = slices.Repeat([][]int{{3, 3}}, n)
			}
			if is, e := Before(f, g); e != api.OK || is != beforeOf(f, g) {
				t.Fatal(n, m, is, e)
			}
			both, e := Both(f, g)
			if n+m > many {
				refuses(t, fmt.Sprint("Both", n, m), both, e, api.ErrLarge)
			} else {
				tells(t, fmt.Sprint("Both", n, m), both, e, frontOf(slices.Concat(f, g)))
			}
			either, e := Either(f, g)
			if n*m > many {
				refuses(t, fmt.Sprint("Either", n, m), either, e, api.ErrLarge)
			} else {
				tells(t, fmt.Sprint("Either", n, m), either, e, frontOf(joinsOf(f, g)))
			}
		}
	}
}

// wrongLists are lists with an error, each with the error that is to be told.
func wrongLists() []struct {
	ts   [][]int
	want api.Errno
} {
	return []struct {
		ts   [][]int
		want api.Errno
	}{
		{line(many+1, 1), api.ErrLarge},
		{slices.Repeat([][]int{{0}}, many+1), api.ErrLarge},
		{slices.Repeat([][]int{{-1}}, many+1), api.ErrLarge},
		{make([][]int, 1000), api.ErrLarge},
		{[][]int{{}}, api.ErrLarge},
		{[][]int{nil, {-1}}, api.ErrLarge},
		{[][]int{{-1}, nil}, api.ErrArg},
		{[][]int{{0}, {top + 1}, {0, 0, 0, 0, 0}}, api.ErrArg},
		{[][]int{{0}, {0, 0, 0, 0, 0}, {top + 1}}, api.ErrLarge},
		{[][]int{{0}, {0, 0}, {-1}}, api.ErrArg},
		{[][]int{{0}, {0, 0}, {}}, api.ErrLarge},
		{append(line(many-1, 1), []int{-1}), api.ErrArg},
		{[][]int{{0}, {0, 0}}, api.ErrForm},
		{[][]int{{0, 0}, {0, 0}, {0}}, api.ErrForm},
		{append(line(many-1, 3), []int{1, 1, 1, 1}), api.ErrForm},
	}
}

// G2, G3: the errors of a list, of the first ahead of those of the second; beside them all is zero.
func TestWrongLists(t *testing.T) {
	good := [][][]int{nil, {{0}}, {{0, 0}}, {{0, 0, 0, 0}}, line(many, 1), line(many, 4)}
	for _, x := range wrongLists() {
		f, e := Front(x.ts)
		refuses(t, fmt.Sprint("Front", x.ts), f, e, x.want)
		for _, g := range good {
			refusesBoth(t, x.ts, g, x.want)
			refusesBoth(t, g, x.ts, x.want)
		}
		for _, y := range wrongLists() {
			refusesBoth(t, x.ts, y.ts, x.want)
		}
	}
	// Two lists that are right alone, but have not as many numbers: told ahead of that they have too many times.
	for _, f := range good[1:] {
		for _, g := range good[1:] {
			if listsOf(f, g) != api.OK {
				refusesBoth(t, f, g, api.ErrForm)
			}
		}
	}
	refusesBoth(t, line(many, 1), line(many, 2), api.ErrForm)
}

// refusesBoth holds the three calls of two lists against the error that they must tell.
func refusesBoth(t *testing.T, f, g [][]int, want api.Errno) {
	t.Helper()
	if is, e := Before(f, g); e != want || is {
		t.Fatal("Before", f, g, is, e, want)
	}
	l, e := Both(f, g)
	refuses(t, fmt.Sprint("Both", f, g), l, e, want)
	l, e = Either(f, g)
	refuses(t, fmt.Sprint("Either", f, g), l, e, want)
}

// G2, G3: lists in which all kinds of wrong things stand together, held against the words.
func TestMixedErrors(t *testing.T) {
	d := draws(8)
	kinds := [][]int{{0}, {1}, {2, 3}, {0, 0, 0, 0}, {-1}, {0, top + 1}, nil, {0, 0, 0, 0, 0}}
	seen := map[api.Errno]int{}
	pick := func() [][]int {
		ts := make([][]int, d.to(4))
		from := d.to(len(kinds))
		for i := range ts {
			ts[i] = kinds[from]
			if d.to(3) == 0 {
				ts[i] = kinds[d.to(len(kinds))]
			}
		}
		return ts
	}
	for range 4000 {
		f, g := pick(), pick()
		want := listsOf(f, g)
		seen[want]++
		if want != api.OK {
			refusesBoth(t, f, g, want)
			continue
		}
		both, e := Both(f, g)
		tells(t, fmt.Sprint("Both", f, g), both, e, frontOf(slices.Concat(f, g)))
	}
	for _, e := range []api.Errno{api.OK, api.ErrLarge, api.ErrArg, api.ErrForm} {
		if seen[e] < 100 {
			t.Error("not all kinds are seen", seen)
		}
	}
}
