package counts

import (
	"slices"
	"testing"

	"watershed/api"
)

// K3: what is said of Front one by one; what is fewer than none keeps nothing from the front, and is not of it.
func TestFrontByHand(t *testing.T) {
	for _, x := range []struct {
		c    []api.Count
		want [][]int
	}{
		{nil, nil},
		{[]api.Count{of(1, 0)}, [][]int{{0}}},
		{[]api.Count{of(-1, 0)}, nil},
		{[]api.Count{of(-1, 0), of(1, 1)}, [][]int{{1}}},
		{[]api.Count{of(most, 0), of(1, 1)}, [][]int{{0}}},
		{[]api.Count{of(1, 0, 2), of(1, 1, 0)}, [][]int{{0, 2}, {1, 0}}},
		{[]api.Count{of(1, 0, 2), of(-1, 1, 0), of(5, 1, 1), of(9, 1, 2)}, [][]int{{0, 2}, {1, 1}}},
		{[]api.Count{of(1, 2), of(1, 10)}, [][]int{{2}}},
		{[]api.Count{of(-most, 0, 0, 0, 0), of(-1, top, top, top, top)}, nil},
		{line(0, many, 4), [][]int{{0, 0, 0, 0}}},
		{with(line(0, many, 4), -1), nil},
		{apart(0, many), timesOf(apart(0, many))},
	} {
		f, e := Front(x.c)
		if e != api.OK || !slices.EqualFunc(f, x.want, slices.Equal[[]int]) {
			t.Error(x.c, f, e)
		}
		tellsFront(t, x.c)
	}
}

// K3: what is said of Moves one by one, with the chapter's example.
func TestMovesByHand(t *testing.T) {
	two := []api.Count{of(1, 0, 2), of(1, 1, 0)}
	for _, x := range []struct{ c, d, want []api.Count }{
		{nil, nil, nil},
		{two, []api.Count{of(1, 0, 2)}, []api.Count{of(-1, 1, 0)}},
		{[]api.Count{of(1, 0, 2)}, two, []api.Count{of(1, 1, 0)}},
		{two, two, nil},
		{two, nil, with(two, -1)},
		{nil, two, two},
		// How many there are is nothing that moves.
		{two, with(two, most), nil},
		{with(two, 5), nil, with(two, -1)},
		// What is gone, or has become fewer than none, is the same.
		{two, []api.Count{of(1, 0, 2), of(-1, 1, 0)}, []api.Count{of(-1, 1, 0)}},
		{with(two, -1), nil, nil},
		{with(two, -1), with(two, 1), two},
		// Where a time goes, those come that it kept from the front; where one comes, those go.
		{[]api.Count{of(1, 0), of(1, 1), of(1, 2)}, []api.Count{of(1, 1), of(1, 2)}, []api.Count{of(-1, 0), of(1, 1)}},
		{[]api.Count{of(1, 1), of(1, 2)}, []api.Count{of(1, 0), of(1, 1), of(1, 2)}, []api.Count{of(1, 0), of(-1, 1)}},
		{two, []api.Count{of(1, 0, 0)}, []api.Count{of(1, 0, 0), of(-1, 0, 2), of(-1, 1, 0)}},
		{two, []api.Count{of(1, 0, 1), of(1, 0, 2), of(1, 1, 0)}, []api.Count{of(1, 0, 1), of(-1, 0, 2)}},
		{two, append(slices.Clone(two), of(1, 1, 1)), nil},
		{[]api.Count{of(1, 2)}, []api.Count{of(1, 10)}, []api.Count{of(-1, 2), of(1, 10)}},
		{apart(0, 32), apart(32, 32), append(with(apart(0, 32), -1), apart(32, 32)...)},
		{apart(0, many), apart(0, many), nil},
		{line(0, many, 2), line(many, many, 2), []api.Count{of(-1, 0, 0), of(1, many, many)}},
	} {
		l, e := Moves(x.c, x.d)
		tells(t, "Moves", x.c, x.d, l, e, x.want, api.OK)
	}
}

// K3: more than MaxTimes may not move, though all of them could stay.
func TestTooManyMoves(t *testing.T) {
	for at := range many + 1 {
		c, d := apart(0, many), apart(at, many)
		l, e := Moves(c, d)
		if at > 32 {
			tells(t, "Moves", c, d, l, e, nil, api.ErrLarge)
			continue
		}
		tells(t, "Moves", c, d, l, e, append(with(apart(0, at), -1), apart(many, at)...), api.OK)
	}
}

// K3: what Moves tells is a tally, which added to the front of c, each time once, makes that of d; the other way it is against it.
func TestLawsOfMoves(t *testing.T) {
	d := draws(6)
	moved := 0
	for round := range 3000 {
		deep, n := 1+round%4, []int{2, 4, 9}[round/4%3]
		a, b := d.tally(24, deep, n), d.tally(24, deep, n)
		moves, e := Moves(a, b)
		if e != api.OK || Check(moves) != api.OK {
			t.Fatal(a, b, moves, e)
		}
		moved += len(moves)
		sum, e := Sum(once(t, a), moves)
		tells(t, "Sum", a, b, sum, e, once(t, b), api.OK)
		back, e := Moves(b, a)
		if e != api.OK || len(back) != len(moves) {
			t.Fatal(a, b, moves, back, e)
		}
		nothing, e := Sum(moves, back)
		tells(t, "Sum", moves, back, nothing, e, nil, api.OK)
	}
	if moved < 3000 {
		t.Error("not much moves", moved)
	}
}

// once has each time of a tally's front once.
func once(t *testing.T, c []api.Count) []api.Count {
	t.Helper()
	f, e := Front(c)
	if e != api.OK {
		t.Fatal(c, e)
	}
	list := make([]api.Count, len(f))
	for i, x := range f {
		list[i] = of(1, x...)
	}
	return list
}
