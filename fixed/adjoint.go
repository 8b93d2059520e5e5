package fixed

import (
	"watershed/api"
	"watershed/lattice"
)

// Adjoint tells for each element y of p the greatest one of o that f makes to one below y; ErrNone, if f doesn't keep Bottom and
// all joins.
func Adjoint(o, p api.Order, f []int) ([]int, api.Errno) {
	from, e := lattice.TableOf(o)
	if e != api.OK {
		return nil, e
	}
	to, e := lattice.TableOf(p)
	if e != api.OK {
		return nil, e
	}
	if !mapped(f).into(from.N, to.N) {
		return nil, api.ErrArg
	}
	if !keepsJoins(from, to, f) {
		return nil, api.ErrNone
	}
	back := make([]int, to.N)
	for y := range back {
		back[y] = greatest(from, func(x int) bool { return to.Below(f[x], y) })
	}
	return back, api.OK
}

// keepsJoins tells if f makes Bottom to Bottom, and each join to the join of what both become.
func keepsJoins(from, to lattice.Table, f mapped) bool {
	if f.of(from.Bottom) != to.Bottom {
		return false
	}
	for a := range from.N {
		for b := range from.N {
			if f.of(from.JoinOf(a, b)) != to.JoinOf(f.of(a), f.of(b)) {
				return false
			}
		}
	}
	return true
}

// greatest is the join of all that are asked for. Where Bottom is asked for, and with every two their join, it is itself one of
// them, and so the greatest.
func greatest(t lattice.Table, asked func(int) bool) int {
	top := t.Bottom
	for x := range t.N {
		if asked(x) {
			top = t.JoinOf(top, x)
		}
	}
	return top
}
