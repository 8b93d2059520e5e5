package downs

import (
	"watershed/api"
	"watershed/order"
)

// All tells all down-sets, as numbers that rise; ErrLarge, if there are more than MaxDowns.
func All(o api.Order) ([]uint32, api.Errno) {
	var list []uint32
	whole, e := each(o, func(set uint32) bool {
		if len(list) == api.MaxDowns {
			return false
		}
		list = append(list, set)
		return true
	})
	if e != api.OK {
		return nil, e
	}
	if !whole {
		return nil, api.ErrLarge
	}
	return list, api.OK
}

// Count tells how many down-sets there are, also where All would have too many to tell.
func Count(o api.Order) (int, api.Errno) {
	n := 0
	_, e := each(o, func(uint32) bool {
		n++
		return true
	})
	return n, e
}

// Inclusion tells the order of the down-sets, by which is within which; ErrLarge, if there are more than MaxN.
func Inclusion(o api.Order) (api.Order, api.Errno) {
	list, e := All(o)
	if e != api.OK {
		return api.Order{}, e
	}
	if len(list) > api.MaxN {
		return api.Order{}, api.ErrLarge
	}
	up := make([]uint32, len(list))
	for i, a := range list {
		for j, b := range list {
			if a&^b == 0 {
				up[i] |= bit(j)
			}
		}
	}
	return api.Order{N: len(list), Up: up}, api.OK
}

// each tells the down-sets of o one by one, as numbers that rise, until tell has enough; it answers if all of them were told.
// How many are enough is the caller's to say: MaxDowns bounds what All answers, not how many there may be.
func each(o api.Order, tell func(set uint32) bool) (bool, api.Errno) {
	down, e := order.Dual(o)
	if e != api.OK {
		return false, e
	}
	return choose(o.Up, down.Up, tell), api.OK
}

// choose tells the down-sets one by one, as numbers that rise, until tell has enough; it answers if all of them were told.
//
// The elements are left out or taken in from the last one on, left out first, so that the numbers rise. What is left out takes
// all above it along, what is taken in all below it: so no choice leads to nothing, and few down-sets are told in few steps.
func choose(up, down []uint32, tell func(set uint32) bool) bool {
	var next func(left int, in, out uint32) bool
	next = func(left int, in, out uint32) bool {
		if left == 0 {
			return tell(in)
		}
		i := left - 1
		if !has(in, i) && !next(i, in, out|up[i]) {
			return false
		}
		return has(out, i) || next(i, in|down[i], out)
	}
	return next(len(up), 0, 0)
}
