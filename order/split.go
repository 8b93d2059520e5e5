package order

import "watershed/api"

// none stands where an element has no next one, or none ahead of it.
const none = -1

// links: which element comes next behind each one in its chain, and which one comes ahead of it.
type links struct {
	next, prev []int
}

// Split tells elements none of which is strictly below another one, and as many chains that have each element once.
func Split(o api.Order) (api.Split, api.Errno) {
	if e := Check(o); e != api.OK {
		return api.Split{}, e
	}
	above := others(o.Up)
	l := linked(above)
	return api.Split{Anti: l.anti(above), Chains: l.chains()}, api.OK
}

// linked links as many elements as can be to one above them, no two to the same one: the more links, the fewer chains.
func linked(above []uint32) links {
	l := links{next: unlinked(len(above)), prev: unlinked(len(above))}
	for i := range above {
		l.link(i, above)
	}
	return l
}

// unlinked is a list of n places at which nothing stands.
func unlinked(n int) []int {
	list := make([]int, n)
	for i := range list {
		list[i] = none
	}
	return list
}

// link finds a next one for element i, if there is a way to move those that are linked.
func (l links) link(i int, above []uint32) {
	seen := uint32(0)
	var place func(a int) bool
	place = func(a int) bool {
		for b := range bitsOf(above[a]) {
			if has(seen, b) {
				continue
			}
			seen |= bit(b)
			if l.prev[b] == none || place(l.prev[b]) {
				l.next[a], l.prev[b] = b, a
				return true
			}
		}
		return false
	}
	place(i)
}

// chains follows the links from each element that has none ahead of it.
func (l links) chains() [][]int {
	var lists [][]int
	for i := range l.prev {
		if l.prev[i] != none {
			continue
		}
		var list []int
		for at := i; at != none; at = l.next[at] {
			list = append(list, at)
		}
		lists = append(lists, list)
	}
	return lists
}

// anti takes one element of each chain (König's theorem): those that the ends of chains come to as a lower one, by moving
// links, but not as an upper one. All that is above a lower one is an upper one, so none is strictly below another one.
func (l links) anti(above []uint32) []int {
	lower, upper := uint32(0), uint32(0)
	var come func(a int)
	come = func(a int) {
		lower |= bit(a)
		for b := range bitsOf(above[a]) {
			upper |= bit(b)
			// There is always one ahead of b: else one more link could have been made.
			if p := l.prev[b]; p != none && !has(lower, p) {
				come(p)
			}
		}
	}
	for i := range l.next {
		if l.next[i] == none && !has(lower, i) {
			come(i)
		}
	}
	var list []int
	for i := range bitsOf(lower &^ upper) {
		list = append(list, i)
	}
	return list
}
