package order

import "watershed/api"

// Sorted tells all elements, each behind what is strictly below it, each time the least one that may come.
func Sorted(o api.Order) ([]int, api.Errno) {
	if e := Check(o); e != api.OK {
		return nil, e
	}
	return sorted(others(turned(o.Up))), api.OK
}

// sorted lines the elements up, of which each has its own word of what must come ahead of it.
func sorted(ahead []uint32) []int {
	list := make([]int, 0, len(ahead))
	left := all(len(ahead))
next:
	for range ahead {
		for i := range bitsOf(left) {
			if ahead[i]&left == 0 {
				list = append(list, i)
				left &^= bit(i)
				continue next
			}
		}
	}
	return list
}

// Heights tells for each element how many others are in the longest chain that ends with it.
func Heights(o api.Order) ([]int, api.Errno) {
	if e := Check(o); e != api.OK {
		return nil, e
	}
	return heights(others(turned(o.Up))), api.OK
}

// heights tells for each element how many others a longest chain has that comes to it through what is ahead.
func heights(ahead []uint32) []int {
	list := make([]int, len(ahead))
	for _, i := range sorted(ahead) {
		for j := range bitsOf(ahead[i]) {
			list[i] = max(list[i], list[j]+1)
		}
	}
	return list
}

// Chain tells the longest chain; of several the one that has the lesser element where they first differ.
func Chain(o api.Order) ([]int, api.Errno) {
	if e := Check(o); e != api.OK {
		return nil, e
	}
	above := others(o.Up)
	// Heights upside down: how many a longest chain still has above the element that it begins with.
	more := heights(above)
	most := -1
	for _, m := range more {
		most = max(most, m)
	}
	var list []int
	may := all(o.N)
	for want := most; want >= 0; want-- {
		i := leastOf(may, more, want)
		list = append(list, i)
		may = above[i]
	}
	return list, api.OK
}

// leastOf is the least element of w that has the number want; 0, if none has.
func leastOf(w uint32, numbers []int, want int) int {
	for i := range bitsOf(w) {
		if numbers[i] == want {
			return i
		}
	}
	return 0
}
