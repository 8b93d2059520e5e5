package summary

import (
	"cmp"
	"slices"

	"watershed/api"
)

// Leq tells if s and r make times with as many numbers, of which s makes none that is greater than that of r at its place.
func Leq(s, r api.Summary) bool {
	if Check(s, api.MaxDeep) != api.OK || Check(r, api.MaxDeep) != api.OK || makes(s) != makes(r) {
		return false
	}
	for i := range makes(s) {
		// What is kept goes up with the time, what is put doesn't: so a number that s keeps isn't held against one that r puts.
		if i < s.Keep && i >= r.Keep || brings(s, i) > brings(r, i) {
			return false
		}
	}
	return true
}

// brings is what a summary adds at a place, if it keeps the number there, and what it puts there, if it puts one.
func brings(s api.Summary, i int) int {
	if i >= s.Keep {
		return s.Push[i-s.Keep]
	}
	if i == s.Keep-1 {
		return s.Add
	}
	return 0
}

// Front tells those of l that no other unlike one is Leq to, each once; by what they keep, then add, then put.
func Front(l []api.Summary) ([]api.Summary, api.Errno) {
	if e := checkList(l); e != api.OK {
		return nil, e
	}
	return Least(l), api.OK
}

// Least is the front of any number of summaries that make times with as many numbers, and with which nothing is wrong.
//
// What is Leq to a summary, and unlike it, keeps fewer; or just as many, and adds less; or both alike, and puts first a lesser
// one. So, in that order, a summary is of the front just if none that was taken ahead of it is Leq to it; and what comes once more
// is left out with the others.
func Least(l []api.Summary) []api.Summary {
	sorted := slices.Clone(l)
	slices.SortFunc(sorted, compare)
	var front []api.Summary
	for _, r := range sorted {
		if !slices.ContainsFunc(front, func(s api.Summary) bool { return Leq(s, r) }) {
			front = append(front, copied(r))
		}
	}
	return front
}

// compare is below 0 if s comes ahead of r in a front, above 0 if behind it, and 0 if they are alike.
func compare(s, r api.Summary) int {
	return cmp.Or(cmp.Compare(s.Keep, r.Keep), cmp.Compare(s.Add, r.Add), slices.Compare(s.Push, r.Push))
}

// checkList tells what is wrong with a list of summaries: ErrLarge, if there are too many; what Check tells of the first that it
// has something against; ErrForm, if two make times with not as many numbers.
func checkList(l []api.Summary) api.Errno {
	if len(l) > api.MaxTimes {
		return api.ErrLarge
	}
	for _, s := range l {
		if e := Check(s, api.MaxDeep); e != api.OK {
			return e
		}
	}
	if slices.ContainsFunc(l, func(s api.Summary) bool { return makes(s) != makes(l[0]) }) {
		return api.ErrForm
	}
	return api.OK
}
