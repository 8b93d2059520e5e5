package summary

import (
	"slices"
	"testing"

	"watershed/api"
	"watershed/times"
)

// H3
func TestLeq(t *testing.T) {
	seen := map[bool]int{}
	list := append(someOnes(), goodOnes(1, 2)...)
	for _, s := range list {
		for _, r := range list {
			is := Leq(s, r)
			seen[is]++
			if is != leqOf(s, r) {
				t.Fatal(s, r, is)
			}
		}
	}
	if seen[true] < 1000 || seen[false] < 1000 {
		t.Error("not all kinds are seen", seen)
	}
}

// H3: what is said here one by one.
func TestLeqByHand(t *testing.T) {
	for _, x := range []struct {
		s, r api.Summary
		want bool
	}{
		{of(1, 0), of(1, 0), true},
		{of(1, 0), of(1, 1), true},
		{of(1, 1), of(1, 0), false},
		{of(1, top), of(1, top), true},
		// Both put: no number is greater.
		{of(1, 0, 3), of(1, 0, 3), true},
		{of(1, 0, 3), of(1, 0, 4), true},
		{of(1, 0, 4), of(1, 0, 3), false},
		{of(1, 0, 3, 5), of(1, 0, 4, 4), false},
		{of(1, 1, 3), of(1, 0, 9), false},
		// s puts, r keeps: only to the last one that it keeps it adds anything.
		{of(1, 0, 0), of(2, 1), true},
		{of(1, 0, 1), of(2, 1), true},
		{of(1, 0, 2), of(2, 1), false},
		{of(1, 1, 0), of(2, 1), false},
		{of(1, 0, 0, 1), of(3, 1), true},
		{of(1, 0, 1, 0), of(3, 1), false},
		{of(1, 0, 0, 0), of(3, 0), true},
		{of(1, 1, 0, 0), of(3, top), false},
		{of(1, 0, 2, 7), of(2, 2, 7), true},
		{of(1, 0, 2, 8), of(2, 2, 7), false},
		{of(1, 0, 0, 0, 5), of(4, 5), true},
		{of(1, 0, 0, 0, 6), of(4, 5), false},
		// s keeps, r puts: no, however great it is.
		{of(2, 0), of(1, 0, 0), false},
		{of(2, 0), of(1, 0, top), false},
		{of(2, 0), of(1, top, top), false},
		{of(4, 0), of(3, 0, top), false},
		// They make times with not as many numbers.
		{of(1, 0), of(2, 0), false},
		{of(2, 0), of(1, 0), false},
		{of(1, 0, 0), of(1, 0, 0, 0), false},
		{of(2, 0, 0), of(2, 5), false},
		// Check has something against one.
		{of(0, 0), of(0, 0), false},
		{of(5, 0), of(5, 0), false},
		{of(0, 0, 0), of(1, 0), false},
		{of(1, -1), of(1, 0), false},
		{of(1, -1), of(1, -1), false},
		{of(1, 0), of(1, top+1), false},
		{of(1, 0, -1), of(1, 0, 0), false},
		{of(1, 0, 0), of(1, 0, top+1), false},
		{of(1, 0, 0, 0, 0, 0), of(1, 0, 0, 0, 0, 0), false},
		{of(4, 0, 0), of(4, 0, 0), false},
	} {
		if is := Leq(x.s, x.r); is != x.want {
			t.Error(x.s, x.r, is)
		}
	}
}

// H3: Leq is an order, and what is ahead in a front has no way back.
func TestLeqLaws(t *testing.T) {
	for deep := 1; deep <= 4; deep++ {
		list := making(deep, 0, 1, top)
		for _, s := range list {
			for _, r := range list {
				if Leq(s, r) && Leq(r, s) != alike(s, r) {
					t.Fatal(s, r)
				}
				if Leq(s, r) && aheadOf(r, s) {
					t.Fatal(s, r)
				}
				for _, q := range list {
					if Leq(s, r) && Leq(r, q) && !Leq(s, q) {
						t.Fatal(s, r, q)
					}
				}
			}
		}
	}
}

// H3: of summaries with small numbers one is Leq to another just if it makes of each time one that is Leq to what the other makes.
func TestLeqOfTimes(t *testing.T) {
	for deep := 1; deep <= 4; deep++ {
		list := making(deep, 0, 1, 3)
		for _, s := range list {
			for _, r := range list {
				is := true
				for _, at := range allOf(4, 0, 9) {
					a, _ := Apply(s, at)
					b, _ := Apply(r, at)
					is = is && times.Leq(a, b)
				}
				if is != Leq(s, r) {
					t.Fatal(s, r, is)
				}
			}
		}
	}
}

// H3: what is Leq stays so if the same is done behind it, or ahead of it, where no sum is too great.
func TestLeqThen(t *testing.T) {
	for deep := 1; deep <= 4; deep++ {
		list := making(deep, 0, 2)
		for _, s := range list {
			for _, r := range list {
				if !Leq(s, r) {
					continue
				}
				for _, q := range goodOnes(0, 1, 5) {
					a, e1 := Then(s, q)
					b, e2 := Then(r, q)
					if e1 != e2 || e1 == api.OK && !Leq(a, b) {
						t.Fatal(s, r, q, a, b)
					}
					a, e1 = Then(q, s)
					b, e2 = Then(q, r)
					if e1 == api.OK && e2 == api.OK && !Leq(a, b) {
						t.Fatal(q, s, r, a, b)
					}
				}
			}
		}
	}
}

// smallLists are all lists of up to 3 summaries that make times of deep numbers.
func smallLists(deep int) [][]api.Summary {
	from := making(deep, 0, 1)
	lists := [][]api.Summary{nil}
	for _, a := range from {
		lists = append(lists, []api.Summary{a})
		for _, b := range from {
			lists = append(lists, []api.Summary{a, b})
			for _, c := range from {
				lists = append(lists, []api.Summary{a, b, c})
			}
		}
	}
	return lists
}

// mixedLists have summaries of all kinds, few ones and many.
func mixedLists() [][]api.Summary {
	d := draws(8)
	var lists [][]api.Summary
	for round := range 3000 {
		lists = append(lists, d.list(many, 1+round%4, []int{2, 5, 40, top + 1}[round/4%4]))
	}
	return lists
}

// H4
func TestFront(t *testing.T) {
	lists := mixedLists()
	for deep := 1; deep <= 4; deep++ {
		lists = append(lists, smallLists(deep)...)
	}
	great := 0
	for _, l := range lists {
		want := frontOf(l)
		tells(t, l, want)
		tells(t, want, want)
		if len(want) > 10 {
			great++
		}
	}
	if great < 50 {
		t.Error("not all kinds are seen", great)
	}
}

// apart has n summaries, none of which is Leq to another, in the order of a front.
func apart(n int) []api.Summary {
	l := make([]api.Summary, n)
	for i := range l {
		l[i] = of(1, 0, i, n-1-i)
	}
	return l
}

// line has n summaries, each of which is Leq to the next one.
func line(n, keep int) []api.Summary {
	l := make([]api.Summary, n)
	for i := range l {
		l[i] = of(keep, i)
	}
	return l
}

// backward has the summaries of a list, the last one first.
func backward(l []api.Summary) []api.Summary {
	l = slices.Clone(l)
	slices.Reverse(l)
	return l
}

// H4: what is said here one by one.
func TestFrontByHand(t *testing.T) {
	for _, x := range []struct{ l, want []api.Summary }{
		{nil, nil},
		{[]api.Summary{}, nil},
		{[]api.Summary{of(1, 7)}, []api.Summary{of(1, 7)}},
		{[]api.Summary{of(2, 1), of(2, 0), of(2, 0)}, []api.Summary{of(2, 0)}},
		{[]api.Summary{of(2, 0), of(1, 0, 0)}, []api.Summary{of(1, 0, 0)}},
		{[]api.Summary{of(2, 0), of(1, 0, 1)}, []api.Summary{of(1, 0, 1), of(2, 0)}},
		{[]api.Summary{of(2, 1), of(1, 0, 1)}, []api.Summary{of(1, 0, 1)}},
		{[]api.Summary{of(1, 2, 0), of(1, 1, 1), of(1, 0, 2)}, []api.Summary{of(1, 0, 2), of(1, 1, 1), of(1, 2, 0)}},
		// By Keep ahead of Add, by Add ahead of Push, by the first that differs.
		{[]api.Summary{of(2, 0, 5), of(1, 9, 0, 0)}, []api.Summary{of(1, 9, 0, 0), of(2, 0, 5)}},
		{[]api.Summary{of(1, 10, 0), of(1, 9, 1)}, []api.Summary{of(1, 9, 1), of(1, 10, 0)}},
		{[]api.Summary{of(1, 0, 10, 2), of(1, 0, 2, 10)}, []api.Summary{of(1, 0, 2, 10), of(1, 0, 10, 2)}},
		{[]api.Summary{of(1, 0, 1, 3, 2), of(1, 0, 1, 2, 3), of(1, 0, 1, 3, 2)}, []api.Summary{of(1, 0, 1, 2, 3), of(1, 0, 1, 3, 2)}},
		{[]api.Summary{of(4, 0), of(3, 0, 1), of(2, 0, 0, 2), of(1, 1, 0, 0, 0)}, []api.Summary{of(1, 1, 0, 0, 0), of(2, 0, 0, 2), of(3, 0, 1), of(4, 0)}},
		{[]api.Summary{of(1, top, 0), of(1, 0, top), of(1, top, top)}, []api.Summary{of(1, 0, top), of(1, top, 0)}},
		{apart(many), apart(many)},
		{backward(apart(many)), apart(many)},
		{backward(line(many, 4)), []api.Summary{of(4, 0)}},
		{slices.Repeat([]api.Summary{of(3, 5, 6)}, many), []api.Summary{of(3, 5, 6)}},
	} {
		tells(t, x.l, x.want)
	}
}

// H4, of more than may be in a list.
func TestLeastOfMany(t *testing.T) {
	for _, x := range []struct{ l, want []api.Summary }{
		{nil, nil},
		{backward(apart(many + 1)), apart(many + 1)},
		{slices.Repeat(backward(apart(200)), 2), apart(200)},
		{backward(line(300, 4)), []api.Summary{of(4, 0)}},
	} {
		if l := Least(x.l); !slices.EqualFunc(l, x.want, alike) {
			t.Error(x.l, l)
		}
	}
}

// H4: the errors of a list; beside them nothing is told.
func TestWrongLists(t *testing.T) {
	for _, x := range []struct {
		l    []api.Summary
		want api.Errno
	}{
		{line(many+1, 1), api.ErrLarge},
		{slices.Repeat([]api.Summary{of(1, 0)}, many+1), api.ErrLarge},
		{slices.Repeat([]api.Summary{of(1, -1)}, many+1), api.ErrLarge},
		{append(line(many, 1), of(2, 0)), api.ErrLarge},
		{make([]api.Summary, 1000), api.ErrLarge},
		{[]api.Summary{{}}, api.ErrLarge},
		{[]api.Summary{of(5, 0)}, api.ErrLarge},
		{[]api.Summary{of(4, 0, 0)}, api.ErrLarge},
		{[]api.Summary{of(0, 0), of(1, -1)}, api.ErrLarge},
		{[]api.Summary{of(1, -1), of(0, 0)}, api.ErrArg},
		{[]api.Summary{of(1, 0, top+1)}, api.ErrArg},
		{[]api.Summary{of(1, 0), of(2, 0), of(1, -1)}, api.ErrArg},
		{[]api.Summary{of(1, 0), of(2, 0), of(0, 0)}, api.ErrLarge},
		{append(line(many-1, 1), of(1, top+1)), api.ErrArg},
		{[]api.Summary{of(1, 0), of(2, 0)}, api.ErrForm},
		{[]api.Summary{of(2, 0), of(2, 0), of(2, 0, 0)}, api.ErrForm},
		{[]api.Summary{of(1, 0, 0), of(2, 0, 0)}, api.ErrForm},
		{append(line(many-1, 3), of(1, 0)), api.ErrForm},
	} {
		refuses(t, x.l, x.want)
	}
}

// H4: lists in which all kinds of wrong things stand together, held against the words.
func TestMixedErrors(t *testing.T) {
	d := draws(4)
	kinds := []api.Summary{of(1, 0), of(1, 2), of(2, 1), of(1, 0, 2), of(4, 0), of(1, -1), of(2, 0, top+1), of(0, 0), of(3, 0, 0, 0)}
	seen := map[api.Errno]int{}
	for range 5000 {
		l := make([]api.Summary, d.to(5))
		from := d.to(len(kinds))
		for i := range l {
			l[i] = kinds[from]
			if d.to(3) == 0 {
				l[i] = kinds[d.to(len(kinds))]
			}
		}
		want := listOf(l)
		seen[want]++
		if want == api.OK {
			tells(t, l, frontOf(l))
		} else {
			refuses(t, l, want)
		}
	}
	for _, e := range []api.Errno{api.OK, api.ErrLarge, api.ErrArg, api.ErrForm} {
		if seen[e] < 100 {
			t.Error("not all kinds are seen", seen)
		}
	}
}
