// Package order has orders of a few elements: what is below what, and the chains of it.
package order

import "watershed/api"

// Check tells what is wrong with o, if something is.
func Check(o api.Order) api.Errno {
	switch {
	case o.N < 0 || o.N > api.MaxN:
		return api.ErrLarge
	case len(o.Up) != o.N || !within(o.Up):
		return api.ErrArg
	case !mayBe(o.Up):
		return api.ErrForm
	}
	return api.OK
}

// within tells if the words have no element beyond as many as there are words.
func within(up []uint32) bool {
	for _, w := range up {
		if w&^all(len(up)) != 0 {
			return false
		}
	}
	return true
}

// mayBe tells if words that are within their number are those of an order.
func mayBe(up []uint32) bool {
	for i, w := range up {
		if !has(w, i) {
			return false
		}
		for j := range bitsOf(w &^ bit(i)) {
			if has(up[j], i) || up[j]&^w != 0 {
				return false
			}
		}
	}
	return true
}

// Of makes the least order of n elements in which each pair's A is below its B.
func Of(n int, pairs []api.Pair) (api.Order, api.Errno) {
	if n < 0 || n > api.MaxN || len(pairs) > api.MaxPairs {
		return api.Order{}, api.ErrLarge
	}
	for _, p := range pairs {
		if p.A < 0 || p.A >= n || p.B < 0 || p.B >= n {
			return api.Order{}, api.ErrArg
		}
	}
	up := reached(n, pairs)
	// What is reached has each element in its own word and is closed under ways of ways, so all that can fail is that two reach one another.
	if !mayBe(up) {
		return api.Order{}, api.ErrCycle
	}
	return api.Order{N: n, Up: up}, api.OK
}

// reached has for each element what is come to from it, by any number of pairs.
func reached(n int, pairs []api.Pair) []uint32 {
	next := make([]uint32, n)
	for _, p := range pairs {
		next[p.A] |= bit(p.B)
	}
	var come func(from int, seen uint32) uint32
	come = func(from int, seen uint32) uint32 {
		seen |= bit(from)
		for to := range bitsOf(next[from]) {
			if !has(seen, to) {
				seen = come(to, seen)
			}
		}
		return seen
	}
	up := make([]uint32, n)
	for i := range up {
		up[i] = come(i, 0)
	}
	return up
}

// Dual turns o upside down.
func Dual(o api.Order) (api.Order, api.Errno) {
	if e := Check(o); e != api.OK {
		return api.Order{}, e
	}
	return api.Order{N: o.N, Up: turned(o.Up)}, api.OK
}

// Covers tells the pairs of which A is strictly below B with nothing strictly between them, by A, then by B.
func Covers(o api.Order) ([]api.Pair, api.Errno) {
	if e := Check(o); e != api.OK {
		return nil, e
	}
	above := others(o.Up)
	below := others(turned(o.Up))
	var list []api.Pair
	for a := range above {
		for b := range bitsOf(above[a]) {
			if above[a]&below[b] == 0 {
				list = append(list, api.Pair{A: a, B: b})
			}
		}
	}
	return list, api.OK
}
