package counts

import (
	"math"
	"slices"
	"testing"

	"watershed/api"
)

// wrong is a list that is no tally, with the error that is to be told.
type wrong struct {
	c    []api.Count
	want api.Errno
}

// wrongTallies: each error by itself, and with those that are named behind it.
func wrongTallies() []wrong {
	deep := []int{0, 0, 0, 0, 0}
	return []wrong{
		{line(0, many+1, 1), api.ErrLarge},
		{line(0, many+1, 4), api.ErrLarge},
		{make([]api.Count, many+1), api.ErrLarge},
		{make([]api.Count, 1000), api.ErrLarge},
		{slices.Repeat([]api.Count{of(0, -1)}, many+1), api.ErrLarge},
		{[]api.Count{of(1)}, api.ErrLarge},
		{[]api.Count{of(1, deep...)}, api.ErrLarge},
		{[]api.Count{of(1, -1)}, api.ErrArg},
		{[]api.Count{of(1, top+1)}, api.ErrArg},
		{[]api.Count{of(1, 0, 0, 0, math.MinInt)}, api.ErrArg},
		{[]api.Count{of(1, math.MaxInt, 0)}, api.ErrArg},
		// The first time's error that has one, ahead of all that may be wrong with two, and with an N.
		{[]api.Count{of(1), of(1, -1)}, api.ErrLarge},
		{[]api.Count{of(1, -1), of(1)}, api.ErrArg},
		{[]api.Count{of(1, 0), of(1, -1), of(1, deep...)}, api.ErrArg},
		{[]api.Count{of(1, 0), of(1, deep...), of(1, -1)}, api.ErrLarge},
		{[]api.Count{of(1, 5), of(1, 5), of(1, deep...)}, api.ErrLarge},
		{[]api.Count{of(1, 5), of(1, 5, 5), of(1)}, api.ErrLarge},
		{[]api.Count{of(0, 5), of(0, 4), of(0)}, api.ErrLarge},
		{append(line(0, many-1, 1), of(0)), api.ErrLarge},
		// Two times have not as many numbers.
		{[]api.Count{of(1, 0), of(1, 0, 1)}, api.ErrForm},
		{[]api.Count{of(1, 0, 1), of(1, 1)}, api.ErrForm},
		{[]api.Count{of(1, 0), of(1, 1), of(1, 2, 0, 0, 0)}, api.ErrForm},
		{[]api.Count{of(1, 0, 0), of(1, 1), of(1, 2, 0)}, api.ErrForm},
		{append(line(0, many-1, 3), of(1, top, top, top, top)), api.ErrForm},
		{[]api.Count{of(0, 0), of(0, 0, 1)}, api.ErrForm},
		// A time is not Less than the next one's.
		{[]api.Count{of(1, 0), of(1, 0)}, api.ErrForm},
		{[]api.Count{of(1, 1), of(1, 0)}, api.ErrForm},
		{[]api.Count{of(1, 0, 1), of(1, 0, 0)}, api.ErrForm},
		{[]api.Count{of(1, 1, 0), of(1, 0, 9)}, api.ErrForm},
		{[]api.Count{of(1, 0), of(1, 2), of(1, 1)}, api.ErrForm},
		{append(line(0, many-1, 2), of(1, 0, 0)), api.ErrForm},
		{append(line(0, many-1, 4), of(1, many-2, many-2, many-2, many-2)), api.ErrForm},
		{[]api.Count{of(0, 1), of(most+1, 0)}, api.ErrForm},
		// An N.
		{[]api.Count{of(0, 0)}, api.ErrArg},
		{[]api.Count{of(most+1, 0)}, api.ErrArg},
		{[]api.Count{of(-most-1, 0)}, api.ErrArg},
		{[]api.Count{of(math.MaxInt64, 0)}, api.ErrArg},
		{[]api.Count{of(math.MinInt64, 0)}, api.ErrArg},
		{[]api.Count{of(1, 0), of(1, 1), of(0, 2)}, api.ErrArg},
		{append(line(0, many-1, 2), of(most+1, many, many)), api.ErrArg},
	}
}

// goodTallies: those that Check has nothing against, though not by much.
func goodTallies() [][]api.Count {
	return [][]api.Count{
		nil,
		{},
		{of(1, 0)},
		{of(-1, top)},
		{of(most, 0, 0, 0, 0)},
		{of(-most, top, top, top, top)},
		{of(1, 0, 2), of(1, 1, 0)},
		{of(-5, 0, top), of(5, 1, 0)},
		{of(1, 2), of(1, 10)},
		{of(1, 0, 0, 0, 0), of(1, 0, 0, 0, 1), of(1, 0, 0, 1, 0), of(1, 1, 0, 0, 0)},
		line(0, many, 1),
		line(top-many+1, many, 4),
		with(line(0, many, 2), -most),
		apart(0, many),
	}
}

// K1: each error, each edge, and which of them is told.
func TestCheck(t *testing.T) {
	for _, c := range goodTallies() {
		if e := Check(c); e != api.OK {
			t.Error(c, e)
		}
	}
	for _, x := range wrongTallies() {
		if e := Check(x.c); e != x.want {
			t.Error(x.c, e, x.want)
		}
	}
}

// K1: all lists of up to three counts from a few in which all kinds of wrong things are, against the words.
func TestCheckOfAll(t *testing.T) {
	few := []api.Count{
		of(1, 0), of(-1, 1), of(most, 2), of(0, 1), of(most+1, 2), of(-most-1, 0), of(-most, 0, 0), of(1, 0, 1), of(1, 1, 0),
		of(0, 1, 1), of(1, -1), of(0, 0, top+1), of(1), of(-1, 0, 0, 0, 0, 0), of(3, 0, 0, 0, 0),
	}
	lists := [][]api.Count{nil}
	seen := map[api.Errno]int{}
	for size := range 4 {
		var longer [][]api.Count
		for _, c := range lists {
			want := checkOf(c)
			seen[want]++
			if e := Check(c); e != want {
				t.Fatal(c, e, want)
			}
			if size > 2 {
				continue
			}
			for _, x := range few {
				longer = append(longer, append(slices.Clone(c), x))
			}
		}
		lists = longer
	}
	if len(seen) != 4 || slices.Min([]int{seen[api.OK], seen[api.ErrLarge], seen[api.ErrArg], seen[api.ErrForm]}) < 10 {
		t.Error("not all kinds are seen", seen)
	}
}

// K1: tallies of all lengths, and such with one thing wrong at each place.
func TestCheckAtEachPlace(t *testing.T) {
	for n := 1; n <= many; n++ {
		for deep := 1; deep <= 4; deep++ {
			c := line(0, n, deep)
			if e := Check(c); e != api.OK {
				t.Fatal(n, deep, e)
			}
			for at := range n {
				for _, x := range []struct {
					n    int64
					t    []int
					want api.Errno
				}{
					{0, c[at].Time, api.ErrArg},
					{most + 1, c[at].Time, api.ErrArg},
					{1, nil, api.ErrLarge},
					{1, []int{-1}, api.ErrArg},
					{1, c[(at+1)%n].Time, api.ErrForm},
				} {
					d := slices.Clone(c)
					d[at] = of(x.n, x.t...)
					if n == 1 && x.want == api.ErrForm {
						x.want = api.OK
					}
					if e := Check(d); e != x.want {
						t.Fatal(d, e, x.want)
					}
				}
			}
		}
	}
}

// K1 to K3: what is wrong with a tally is told by all calls, with nothing beside it; that of the first ahead of all else.
func TestWrongTallies(t *testing.T) {
	for _, x := range wrongTallies() {
		if f, e := Front(x.c); e != x.want || len(f) != 0 {
			t.Error("Front", x.c, f, e)
		}
		for _, at := range [][]int{{0}, {0, 0}, nil, {-1}, {0, 0, 0, 0, 0}} {
			for _, n := range []int64{0, 1, most + 1} {
				if l, e := Add(x.c, at, n); e != x.want || len(l) != 0 {
					t.Error("Add", x.c, at, n, l, e)
				}
			}
		}
		for _, c := range goodTallies() {
			refusesBoth(t, x.c, c, x.want)
			refusesBoth(t, c, x.c, x.want)
		}
		for _, y := range wrongTallies() {
			refusesBoth(t, x.c, y.c, x.want)
		}
	}
}

// refusesBoth holds the two calls of two tallies against the error that they must tell.
func refusesBoth(t *testing.T, c, d []api.Count, want api.Errno) {
	t.Helper()
	l, e := Sum(c, d)
	tells(t, "Sum", c, d, l, e, nil, want)
	l, e = Moves(c, d)
	tells(t, "Moves", c, d, l, e, nil, want)
}

// K2, K3: two tallies that are right alone, but whose times have not as many numbers, also where nothing of them is above 0.
func TestUnlikeTallies(t *testing.T) {
	for _, c := range goodTallies() {
		for _, d := range goodTallies() {
			if len(c) > 0 && len(d) > 0 && len(c[0].Time) != len(d[0].Time) {
				refusesBoth(t, c, d, api.ErrForm)
			} else if es := tellsBoth(t, c, d); es[0] == api.ErrForm || es[1] == api.ErrForm {
				t.Error(c, d, es)
			}
		}
	}
	refusesBoth(t, []api.Count{of(-1, 0)}, []api.Count{of(-1, 0, 0)}, api.ErrForm)
	refusesBoth(t, with(line(0, many, 1), most), with(line(0, many, 2), most), api.ErrForm)
}
