package times

import (
	"slices"

	"watershed/api"
)

// Front tells those of ts that no other unlike one is Leq to, each once, in the order of Less.
func Front(ts [][]int) ([][]int, api.Errno) {
	if e := checkList(ts); e != api.OK {
		return nil, e
	}
	return Least(ts), api.OK
}

// Open tells if there is a time in f that is Leq to t.
func Open(f [][]int, t []int) bool {
	return slices.ContainsFunc(f, func(x []int) bool { return Leq(x, t) })
}

// Before tells if there is for each time of g one of f that is Leq to it.
func Before(f, g [][]int) (bool, api.Errno) {
	if e := checkLists([2][][]int{f, g}); e != api.OK {
		return false, e
	}
	return !slices.ContainsFunc(g, func(t []int) bool { return !Open(f, t) }), api.OK
}

// Both tells the Front of the times of f and of g.
func Both(f, g [][]int) ([][]int, api.Errno) {
	if e := checkLists([2][][]int{f, g}); e != api.OK {
		return nil, e
	}
	if len(f)+len(g) > api.MaxTimes {
		return nil, api.ErrLarge
	}
	return Least(slices.Concat(f, g)), api.OK
}

// Either tells the Front of all Joins of a time of f and a time of g.
func Either(f, g [][]int) ([][]int, api.Errno) {
	if e := checkLists([2][][]int{f, g}); e != api.OK {
		return nil, e
	}
	if len(f)*len(g) > api.MaxTimes {
		return nil, api.ErrLarge
	}
	joins := make([][]int, 0, len(f)*len(g))
	for _, a := range f {
		for _, b := range g {
			joins = append(joins, together([2][]int{a, b}, greater))
		}
	}
	return Least(joins), api.OK
}

// Least is the front of any number of times that have as many numbers, and with which nothing is wrong.
//
// What is Leq to a time, and unlike it, is Less than it, too: so, in the order of Less, a time is of the front just if none that
// was taken ahead of it is Leq to it; and what comes once more is left out with the others.
func Least(ts [][]int) [][]int {
	sorted := slices.Clone(ts)
	slices.SortFunc(sorted, func(a, b []int) int { return slices.Compare(a, b) })
	var front [][]int
	for _, t := range sorted {
		if !Open(front, t) {
			front = append(front, slices.Clone(t))
		}
	}
	return front
}

// checkList tells what is wrong with a list of times: ErrLarge, if there are too many; what Check tells of the first that it has
// something against; ErrForm, if two have not as many numbers.
func checkList(ts [][]int) api.Errno {
	if len(ts) > api.MaxTimes {
		return api.ErrLarge
	}
	for _, t := range ts {
		if e := Check(t); e != api.OK {
			return e
		}
	}
	if slices.ContainsFunc(ts, func(t []int) bool { return len(t) != len(ts[0]) }) {
		return api.ErrForm
	}
	return api.OK
}

// checkLists tells what is wrong with two lists of times: with the first, with the second, or that the times of one have not as
// many numbers as those of the other.
func checkLists(pair [2][][]int) api.Errno {
	for _, ts := range pair {
		if e := checkList(ts); e != api.OK {
			return e
		}
	}
	f, g := pair[0], pair[1]
	if len(f) > 0 && len(g) > 0 && len(f[0]) != len(g[0]) {
		return api.ErrForm
	}
	return api.OK
}
