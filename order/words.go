package order

import (
	"iter"
	"math/bits"
)

// word: what has elements as its bits.
type word interface {
	~uint8 | ~uint16 | ~uint32 | ~uint64
}

// bitsOf goes through the elements of w, the least one first.
func bitsOf[W word](w W) iter.Seq[int] {
	return func(yield func(int) bool) {
		for rest := uint64(w); rest != 0; rest &= rest - 1 {
			if !yield(bits.TrailingZeros64(rest)) {
				return
			}
		}
	}
}

// bit is the word that has element i alone; i is 0 to MaxN - 1.
func bit(i int) uint32 {
	return 1 << uint(i)
}

// has tells if element i is in w.
func has(w uint32, i int) bool {
	return w&bit(i) != 0
}

// all is the word that has the first n elements; n is 0 to MaxN.
func all(n int) uint32 {
	return 1<<uint(n) - 1
}

// turned has element i in word j just if up has element j in word i.
func turned(up []uint32) []uint32 {
	down := make([]uint32, len(up))
	for i, w := range up {
		for j := range bitsOf(w) {
			down[j] |= bit(i)
		}
	}
	return down
}

// others leaves out of each word the element whose word it is.
func others(up []uint32) []uint32 {
	list := make([]uint32, len(up))
	for i, w := range up {
		list[i] = w &^ bit(i)
	}
	return list
}
