package lattice

import (
	"slices"

	"watershed/api"
	"watershed/order"
)

// Table is an order that is a lattice, with its joins and meets.
type Table struct {
	api.Order
	api.Lattice
}

// TableOf makes the table of o; ErrNone, if o is no lattice.
func TableOf(o api.Order) (Table, api.Errno) {
	down, e := order.Dual(o)
	if e != api.OK {
		return Table{}, e
	}
	join, joined := nearest(o.Up)
	meet, met := nearest(down.Up)
	if o.N == 0 || !joined || !met {
		return Table{}, api.ErrNone
	}
	t := Table{Order: api.Order{N: o.N, Up: slices.Clone(o.Up)}, Lattice: api.Lattice{Join: join, Meet: meet}}
	t.Bottom = t.MeetOf(0, t.elements()...)
	t.Top = t.JoinOf(0, t.elements()...)
	return t, api.OK
}

// nearest has for every two words the place of the one that is just what both have; it tells false, if two have none.
//
// The words being those of an order, what two have is what lies on the far side of both: who lies nearest to them has all of it,
// and nothing else, as its own word.
func nearest(words []uint32) ([]int, bool) {
	list := make([]int, 0, len(words)*len(words))
	for _, a := range words {
		for _, b := range words {
			i := slices.Index(words, a&b)
			if i < 0 {
				return nil, false
			}
			list = append(list, i)
		}
	}
	return list, true
}

// gathered puts first and all others together, two by two.
func gathered(two func(a, b int) int, first int, others ...int) int {
	for _, i := range others {
		first = two(first, i)
	}
	return first
}

func (t Table) join(a, b int) int { return t.Join[a*t.N+b] }

func (t Table) meet(a, b int) int { return t.Meet[a*t.N+b] }

// elements are all of them, by their numbers.
func (t Table) elements() []int {
	list := make([]int, t.N)
	for i := range list {
		list[i] = i
	}
	return list
}

// JoinOf is the join of a and any number of others.
func (t Table) JoinOf(a int, others ...int) int { return gathered(t.join, a, others...) }

// MeetOf is the meet of a and any number of others.
func (t Table) MeetOf(a int, others ...int) int { return gathered(t.meet, a, others...) }

// Below tells if a is below b.
func (t Table) Below(a, b int) bool { return t.join(a, b) == b }
