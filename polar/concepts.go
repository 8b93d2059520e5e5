package polar

import (
	"cmp"
	"slices"

	"watershed/api"
	"watershed/order"
)

// Concepts tells all concepts of c, their Rows rising as numbers; ErrLarge, if there are more than MaxConcepts.
func Concepts(c api.Context) ([]api.Concept, api.Errno) {
	if e := check(c); e != api.OK {
		return nil, e
	}
	sets, whole := closed(c)
	if !whole {
		return nil, api.ErrLarge
	}
	list := make([]api.Concept, len(sets))
	for i, rows := range sets {
		list[i] = api.Concept{Rows: rows, Cols: columnsOf(c, rows)}
	}
	slices.SortFunc(list, func(a, b api.Concept) int { return cmp.Compare(a.Rows, b.Rows) })
	return list, api.OK
}

// closed are the sets of rows of all concepts, each once; it answers false, if there are more than MaxConcepts.
//
// They are just what any number of columns have in common: of none all rows, and with each further column what it shares with
// what is there. None is ever lost again, so it is known as soon as there are too many.
func closed(c api.Context) ([]uint32, bool) {
	list := []uint32{all(len(c.Rows))}
	place := map[uint32]int{list[0]: 0}
	for j := range c.Cols {
		column := rowsOf(c, bit(j))
		for _, set := range list {
			shared := set & column
			if _, ok := place[shared]; ok {
				continue
			}
			if len(list) == api.MaxConcepts {
				return nil, false
			}
			place[shared] = len(list)
			list = append(list, shared)
		}
	}
	return list, true
}

// Complete tells the order of the concepts of o's context, and where in it each element of o stands; ErrLarge, if there are more
// than MaxN.
func Complete(o api.Order) (api.Order, []int, api.Errno) {
	down, e := order.Dual(o)
	if e != api.OK {
		return api.Order{}, nil, e
	}
	list, e := Concepts(api.Context{Rows: o.Up, Cols: o.N})
	if e != api.OK {
		return api.Order{}, nil, e
	}
	if len(list) > api.MaxN {
		return api.Order{}, nil, api.ErrLarge
	}
	whole := ordered(len(list), func(a, b int) bool { return within(list[a].Rows, list[b].Rows) })
	return whole, placesOf(list, down.Up), api.OK
}

// ordered is the order of n elements that below tells.
func ordered(n int, below func(a, b int) bool) api.Order {
	o := api.Order{N: n, Up: make([]uint32, n)}
	for a := range n {
		for b := range n {
			if below(a, b) {
				o.Up[a] |= bit(b)
			}
		}
	}
	return o
}

// placesOf are the places of the concepts that have the sets as Rows; there is one for each.
func placesOf(list []api.Concept, sets []uint32) []int {
	place := make(map[uint32]int, len(list))
	for i, c := range list {
		place[c.Rows] = i
	}
	at := make([]int, len(sets))
	for i, rows := range sets {
		at[i] = place[rows]
	}
	return at
}
