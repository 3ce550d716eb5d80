// Package bits is layer 1: see shared/doc/01-bits.md.
package bits

import (
	mathbits "math/bits"
	"slices"

	"dataflow/api"
)

// wordBits is the number of elements that one word of a set stands for.
const wordBits = 64

// Check returns ErrRange if b has an element that is not less than MaxElem, and otherwise OK.
func Check(b api.Bits) api.Errno {
	if len(trim(b)) > api.MaxElem/wordBits {
		return api.ErrRange
	}
	return api.OK
}

// Of returns the set of the given elements, or ErrRange.
func Of(l ...int) (api.Bits, api.Errno) {
	words := 0
	for _, x := range l {
		if !isElem(x) {
			return nil, api.ErrRange
		}
		words = max(words, x/wordBits+1)
	}
	b := make(api.Bits, words)
	for _, x := range l {
		b[x/wordBits] |= 1 << (x % wordBits)
	}
	return b, api.OK
}

// List returns the elements, ascending.
func List(b api.Bits) []int {
	list := make([]int, 0, Count(b))
	for w := range len(b) {
		for rest := b[w]; rest != 0; {
			i := mathbits.TrailingZeros64(rest)
			list = append(list, w*wordBits+i)
			rest &^= 1 << i
		}
	}
	return list
}

// Has reports whether x is an element.
func Has(b api.Bits, x int) bool {
	if x < 0 {
		return false
	}
	return word(b, x/wordBits)>>(x%wordBits)&1 == 1
}

// With returns the set with x added, or ErrRange.
func With(b api.Bits, x int) (api.Bits, api.Errno) {
	if !isElem(x) {
		return nil, api.ErrRange
	}
	r := resized(b, max(len(trim(b)), x/wordBits+1))
	r[x/wordBits] |= 1 << (x % wordBits)
	return r, api.OK
}

// Without returns the set without x.
func Without(b api.Bits, x int) api.Bits {
	r := resized(b, len(trim(b)))
	if Has(r, x) {
		r[x/wordBits] &^= 1 << (x % wordBits)
	}
	return trim(r)
}

// Union returns the elements of a or b.
func Union(a, b api.Bits) api.Bits {
	b = trim(b)
	r := resized(a, max(len(trim(a)), len(b)))
	for w := range len(b) {
		r[w] |= b[w]
	}
	return r
}

// Minus returns the elements of a that are not in b.
func Minus(a, b api.Bits) api.Bits {
	r := resized(a, len(trim(a)))
	for w := range min(len(r), len(b)) {
		r[w] &^= b[w]
	}
	return trim(r)
}

// Both returns the elements of a and b.
func Both(a, b api.Bits) api.Bits {
	r := resized(a, min(len(trim(a)), len(trim(b))))
	for w := range len(r) {
		r[w] &= b[w]
	}
	return trim(r)
}

// Within reports whether each element of a is one of b.
func Within(a, b api.Bits) bool {
	for w := range len(a) {
		if a[w]&^word(b, w) != 0 {
			return false
		}
	}
	return true
}

// Same reports whether a and b have the same elements.
func Same(a, b api.Bits) bool { return slices.Equal(trim(a), trim(b)) }

// Count returns the number of elements.
func Count(b api.Bits) int {
	n := 0
	for w := range len(b) {
		n += mathbits.OnesCount64(b[w])
	}
	return n
}

// Next returns the least element that is at least x, or -1.
func Next(b api.Bits, x int) int {
	x = max(x, 0)
	first := x / wordBits
	// The elements below x in its own word are shifted out, so that the word needs no loop of its own.
	if rest := word(b, first) >> (x % wordBits); rest != 0 {
		return x + mathbits.TrailingZeros64(rest)
	}
	for i := range len(b) - first - 1 {
		w := first + 1 + i
		if b[w] != 0 {
			return w*wordBits + mathbits.TrailingZeros64(b[w])
		}
	}
	return -1
}

// isElem reports whether x may be added to a set.
func isElem(x int) bool { return x >= 0 && x < api.MaxElem }

// word returns word w of b; the words after the last one count as 0.
func word(b api.Bits, w int) uint64 {
	if w >= len(b) {
		return 0
	}
	return b[w]
}

// trim returns b without the zero words at its end. It shares the memory of b, so only a set made here may be returned through it.
func trim(b api.Bits) api.Bits {
	n := len(b)
	for n > 0 && b[n-1] == 0 {
		n--
	}
	return b[:n]
}

// resized returns a new set of n words that begins with those of b, as arguments must stay as they are.
func resized(b api.Bits, n int) api.Bits {
	r := make(api.Bits, n)
	copy(r, b)
	return r
}
