package mobius

// number: what is added and multiplied without what is beyond its bits.
type number interface {
	~int8 | ~int16 | ~int32 | ~int64
}

// square has n * n numbers, that of a and b at a * n + b.
type square[T number] struct {
	n  int
	at []T
}

// blank is the square of n * n zeros.
func blank[T number](n int) square[T] {
	return square[T]{n, make([]T, n*n)}
}

// ones is the square that is 1 where a is b, and 0 elsewhere.
func ones[T number](n int) square[T] {
	s := blank[T](n)
	for a := range n {
		s.row(a)[a] = 1
	}
	return s
}

// copied is the square of n * n numbers that stand in a list.
func copied[T number](n int, list []T) square[T] {
	s := blank[T](n)
	copy(s.at, list)
	return s
}

// row has the numbers of a and each b; to write to it is to write to s.
func (s square[T]) row(a int) []T {
	return s.at[a*s.n : (a+1)*s.n]
}

// sum has at b the sum, over all a, of v at a times s at a and b.
func (s square[T]) sum(v []T) []T {
	total := make([]T, s.n)
	for a, k := range v {
		add(total, k, s.row(a))
	}
	return total
}

// times has at a and b the sum, over all x, of s at a and x times t at x and b.
func (s square[T]) times(t square[T]) square[T] {
	p := blank[T](s.n)
	for a := range s.n {
		copy(p.row(a), t.sum(s.row(a)))
	}
	return p
}

// add adds k times each number of row to the one at its place in total.
func add[T number](total []T, k T, row []T) {
	for b, x := range row {
		total[b] += k * x
	}
}
