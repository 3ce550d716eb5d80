// Package partition is layer 2: see shared/doc/02-partition.md.
package partition

import "dataflow/api"

// Check returns an error unless p[i] is the least member of the class of i, for each i.
func Check(p []int) api.Errno {
	if len(p) > api.MaxNodes {
		return api.ErrTooLong
	}
	for i, least := range p {
		if least < 0 || least > i {
			return api.ErrRange
		}
		if p[least] != least {
			return api.ErrInvalid
		}
	}
	return api.OK
}

// New returns the partition of 0 to n-1 into single elements.
func New(n int) ([]int, api.Errno) {
	if n < 0 || n > api.MaxNodes {
		return nil, api.ErrRange
	}
	p := make([]int, n)
	for i := range p {
		p[i] = i
	}
	return p, api.OK
}

// Find returns the least member of the class of x.
func Find(p []int, x int) (int, api.Errno) {
	if e := Check(p); e != api.OK {
		return 0, e
	}
	if !isNumber(p, x) {
		return 0, api.ErrRange
	}
	return p[x], api.OK
}

// Join returns the partition in which the classes of x and y are one.
func Join(p []int, x, y int) ([]int, api.Errno) {
	if e := Check(p); e != api.OK {
		return nil, e
	}
	if !isNumber(p, x) || !isNumber(p, y) {
		return nil, api.ErrRange
	}
	from, to := max(p[x], p[y]), min(p[x], p[y])
	q := make([]int, len(p))
	for i, least := range p {
		if least == from {
			least = to
		}
		q[i] = least
	}
	return q, api.OK
}

// Of returns the finest partition of 0 to n-1 in which the ends of each pair are in one class.
func Of(n int, pairs ...api.Edge) ([]int, api.Errno) {
	p, e := New(n)
	if e != api.OK {
		return nil, e
	}
	for _, pair := range pairs {
		if !isNumber(p, pair.From) || !isNumber(p, pair.To) {
			return nil, api.ErrRange
		}
		link(p, pair.From, pair.To)
	}
	// A number's parent is never above it, so the parent's own entry is final by the time it is read.
	for i, parent := range p {
		p[i] = p[parent]
	}
	return p, api.OK
}

// Same reports whether x and y are in one class.
func Same(p []int, x, y int) bool {
	return Check(p) == api.OK && isNumber(p, x) && isNumber(p, y) && p[x] == p[y]
}

// Classes returns the classes, each ascending, in the order of their least members.
func Classes(p []int) ([][]int, api.Errno) {
	if e := Check(p); e != api.OK {
		return nil, e
	}
	var classes [][]int
	place := make([]int, len(p))
	collect := func(i int) {
		if p[i] == i {
			place[i] = len(classes)
			classes = append(classes, nil)
		}
		c := place[p[i]]
		classes[c] = append(classes[c], i)
	}
	for i := range p {
		collect(i)
	}
	return classes, api.OK
}

// Finer reports whether each class of a is within a class of b.
func Finer(a, b []int) bool {
	if len(a) != len(b) || Check(a) != api.OK || Check(b) != api.OK {
		return false
	}
	for i, least := range a {
		if b[i] != b[least] {
			return false
		}
	}
	return true
}

// isNumber reports whether x is one of the numbers of p.
func isNumber(p []int, x int) bool { return x >= 0 && x < len(p) }

// link joins the classes of x and y in the forest p. The greater root gets the lesser one as its parent, so that every root is the least member of its class.
func link(p []int, x, y int) {
	x, y = root(p, x), root(p, y)
	p[max(x, y)] = min(x, y)
}

// root returns the root of x in the forest p. It halves the path on the way, because long lists of pairs would otherwise take quadratic time.
func root(p []int, x int) int {
	for p[x] != x {
		p[x] = p[p[x]]
		x = p[x]
	}
	return x
}
