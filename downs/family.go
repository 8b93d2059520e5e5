package downs

import (
	"watershed/api"
	"watershed/order"
)

// All tells all down-sets, as numbers that rise; ErrLarge, if there are more than MaxDowns.
func All(o api.Order) ([]uint32, api.Errno) {
	var list []uint32
	e := each(o, func(set uint32) { list = append(list, set) })
	if e != api.OK {
		return nil, e
	}
	return list, api.OK
}

// Count tells how many down-sets there are; ErrLarge, if there are more than MaxDowns.
func Count(o api.Order) (int, api.Errno) {
	n := 0
	e := each(o, func(uint32) { n++ })
	if e != api.OK {
		return 0, e
	}
	return n, api.OK
}

// Inclusion tells the order of the down-sets, by which is within which; ErrLarge, if there are more than MaxN.
func Inclusion(o api.Order) (api.Order, api.Errno) {
	list, e := All(o)
	if e != api.OK {
		return api.Order{}, e
	}
	if len(list) > api.MaxN {
		return api.Order{}, api.ErrLarge
	}
	up := make([]uint32, len(list))
	for i, a := range list {
		for j, b := range list {
			if a&^b == 0 {
				up[i] |= bit(j)
			}
		}
	}
	return api.Order{N: len(list), Up: up}, api.OK
}

// each tells the down-sets of o one by one, as numbers that rise; ErrLarge, if there is one more behind MaxDowns of them.
func each(o api.Order, tell func(set uint32)) api.Errno {
	down, e := order.Dual(o)
	if e != api.OK {
		return e
	}
	told := 0
	whole := choose(o.Up, down.Up, func(set uint32) bool {
		if told == api.MaxDowns {
			return false
		}
		told++
		tell(set)
		return true
	})
	if !whole {
		return api.ErrLarge
	}
	return api.OK
}

// choose tells the down-sets one by one, as numbers that rise, until tell has enough; it answers if all of them were told.
//
// The elements are left out or taken in from the last one on, left out first, so that the numbers rise. What is left out takes
// all above it along, what is taken in all below it: so no choice leads to nothing, and few down-sets are told in few steps.
func choose(up, down []uint32, tell func(set uint32) bool) bool {
	var next func(left int, in, out uint32) bool
	next = func(left int, in, out uint32) bool {
		if left == 0 {
			return tell(in)
		}
		i := left - 1
		if !has(in, i) && !next(i, in, out|up[i]) {
			return false
		}
		return has(out, i) || next(i, in|down[i], out)
	}
	return next(len(up), 0, 0)
}
