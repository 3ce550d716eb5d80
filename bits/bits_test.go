package bits

import (
	"math"
	"slices"
	"testing"

	"dataflow/api"
)

// farNumbers are ints at the ends of their range and around the limits of words and of sets.
var farNumbers = []int{math.MinInt, math.MinInt + 1, -65536, -64, -1, 0, 1, 62, 63, 64, 65, 127, 128, 191, 192, 65535, 65536, 65537, 1 << 32, math.MaxInt - 63, math.MaxInt}

// samples returns sets of many shapes: normal and not, small and at the limits, with elements beyond MaxElem.
func samples() []api.Bits {
	last := make(api.Bits, 1024)
	last[1023] = 1 << 63
	beyond := make(api.Bits, 1026)
	beyond[0], beyond[1024] = 5, 1
	return []api.Bits{
		nil, {}, {0}, {0, 0, 0}, {1}, {2}, {2, 0}, {2, 1}, {6, 0, 0}, {0, 1}, {1 << 63}, {1 << 63, 1 << 63},
		{math.MaxUint64}, {math.MaxUint64, math.MaxUint64, 0}, {0, 0, 8}, {0xf0f0, 0, 0x11, 0}, last, beyond,
	}
}

// elems is the model of a set: its elements, found one by one.
func elems(b api.Bits) map[int]bool {
	m := map[int]bool{}
	for i := range len(b) * 64 {
		if b[i/64]&(uint64(1)<<(i%64)) != 0 {
			m[i] = true
		}
	}
	return m
}

// sorted returns the elements of a model that meet a condition.
func sorted(m map[int]bool, keep func(x int) bool) []int {
	l := []int{}
	for x := range m {
		if keep(x) {
			l = append(l, x)
		}
	}
	slices.Sort(l)
	return l
}

func always(int) bool { return true }

// expect fails the test unless b is in normal form and has exactly the elements of want.
func expect(t *testing.T, what string, b api.Bits, want []int) {
	t.Helper()
	if len(b) > 0 && b[len(b)-1] == 0 {
		t.Errorf("%s: a zero word at the end", what)
	}
	if got := sorted(elems(b), always); !slices.Equal(got, want) {
		t.Errorf("%s: %v, want %v", what, got, want)
	}
}

func TestCheck(t *testing.T) { // P1.1
	full := make(api.Bits, 1024)
	for w := range full {
		full[w] = math.MaxUint64
	}
	for _, c := range []struct {
		name string
		b    api.Bits
		want api.Errno
	}{
		{"nil", nil, api.OK},
		{"small", api.Bits{5, 1}, api.OK},
		{"all elements", full, api.OK},
		{"all elements and zero words", append(slices.Clone(full), 0, 0), api.OK},
		{"zero words only", make(api.Bits, 2000), api.OK},
		{"65536", append(make(api.Bits, 1024), 1), api.ErrRange},
		{"65599", append(make(api.Bits, 1024), 1<<63), api.ErrRange},
		{"beyond and zero words", append(make(api.Bits, 1030), 1, 0, 0), api.ErrRange},
	} {
		if e := Check(c.b); e != c.want {
			t.Errorf("%s: %d, want %d", c.name, int(e), int(c.want))
		}
	}
}

func TestOthersAcceptSetsThatAreNotValid(t *testing.T) { // P1.1
	b := append(make(api.Bits, 1024), 1)
	if !Has(b, 65536) || Count(b) != 1 || Next(b, 3) != 65536 || !slices.Equal(List(b), []int{65536}) {
		t.Error("Has, Count, Next, List")
	}
	c, e := With(b, 3)
	if e != api.OK {
		t.Error("With")
	}
	expect(t, "With", c, []int{3, 65536})
	expect(t, "Without", Without(c, 65536), []int{3})
	expect(t, "Union", Union(api.Bits{2}, b), []int{1, 65536})
	expect(t, "Minus", Minus(c, b), []int{3})
	expect(t, "Both", Both(c, b), []int{65536})
	if !Within(b, c) || Within(c, b) || !Same(b, append(slices.Clone(b), 0)) {
		t.Error("Within, Same")
	}
}

func TestOf(t *testing.T) { // P1.2
	for _, c := range []struct{ in, want []int }{
		{nil, nil},
		{[]int{}, nil},
		{[]int{64, 1, 64}, []int{1, 64}},
		{[]int{0}, []int{0}},
		{[]int{63}, []int{63}},
		{[]int{65535, 0, 65535}, []int{0, 65535}},
		{[]int{5, 4, 3, 128, 3}, []int{3, 4, 5, 128}},
	} {
		in := slices.Clone(c.in)
		b, e := Of(in...)
		if e != api.OK {
			t.Errorf("Of %v: error %d", c.in, int(e))
		}
		expect(t, "Of", b, c.want)
		if !slices.Equal(in, c.in) {
			t.Error("Of changed its argument")
		}
	}
	for _, l := range [][]int{{-1}, {65536}, {1, -1}, {1, 65536, 2}, {math.MinInt}, {math.MaxInt}, {3, math.MaxInt - 63}} {
		if b, e := Of(l...); e != api.ErrRange || len(b) != 0 {
			t.Errorf("Of %v: %v %d", l, b, int(e))
		}
	}
}

func TestListHasCountNext(t *testing.T) { // P1.3
	for _, b := range samples() {
		m := elems(b)
		list := sorted(m, always)
		if got := List(b); !slices.Equal(got, list) {
			t.Errorf("List: %v, want %v", got, list)
		}
		if got := Count(b); got != len(list) {
			t.Errorf("Count of %v: %d", list, got)
		}
		for _, x := range append(slices.Clone(farNumbers), list...) {
			if Has(b, x) != m[x] {
				t.Errorf("Has of %v and %d", list, x)
			}
			for _, from := range []int{x, max(x, math.MinInt+1) - 1, min(x, math.MaxInt-1) + 1} {
				want := -1
				if l := sorted(m, func(y int) bool { return y >= from }); len(l) > 0 {
					want = l[0]
				}
				if got := Next(b, from); got != want {
					t.Errorf("Next of %v and %d: %d, want %d", list, from, got, want)
				}
			}
		}
	}
}

func TestExamples(t *testing.T) { // P1.3
	b := api.Bits{2, 1}
	if !slices.Equal(List(b), []int{1, 64}) || !Has(b, 64) || Has(b, 65) || Has(b, -1) || Count(b) != 2 {
		t.Error("List, Has, Count")
	}
	if Next(b, 2) != 64 || Next(b, -5) != 1 || Next(b, 65) != -1 || Next(b, 64) != 64 || Next(nil, 0) != -1 {
		t.Error("Next")
	}
}

func TestNextVisitsEveryElement(t *testing.T) { // P1.3
	for _, b := range samples() {
		got := []int{}
		for x := Next(b, 0); x >= 0; x = Next(b, x+1) {
			got = append(got, x)
		}
		if !slices.Equal(got, List(b)) {
			t.Errorf("%v, want %v", got, List(b))
		}
	}
}

func TestWithWithout(t *testing.T) { // P1.4
	for _, b := range samples() {
		m := elems(b)
		for _, x := range farNumbers {
			rest := sorted(m, func(y int) bool { return y != x })
			expect(t, "Without", Without(b, x), rest)
			c, e := With(b, x)
			if x < 0 || x >= api.MaxElem {
				if e != api.ErrRange || len(c) != 0 {
					t.Errorf("With %d: %v %d", x, c, int(e))
				}
				continue
			}
			if e != api.OK {
				t.Errorf("With %d: error %d", x, int(e))
			}
			want := append(rest, x)
			slices.Sort(want)
			expect(t, "With", c, want)
		}
	}
	if b := Without(api.Bits{2, 1}, 64); len(b) != 1 || b[0] != 2 {
		t.Errorf("Without {1, 64} and 64: %v", b)
	}
	if b, e := With(nil, 3); e != api.OK || !slices.Equal(b, api.Bits{8}) {
		t.Errorf("With the empty set and 3: %v", b)
	}
}

func TestTwoSets(t *testing.T) { // P1.5, P1.6
	for _, a := range samples() {
		for _, b := range samples() {
			x, y := elems(a), elems(b)
			all := map[int]bool{}
			for _, m := range []map[int]bool{x, y} {
				for i := range m {
					all[i] = true
				}
			}
			minus := sorted(x, func(i int) bool { return !y[i] })
			expect(t, "Union", Union(a, b), sorted(all, always))
			expect(t, "Minus", Minus(a, b), minus)
			expect(t, "Both", Both(a, b), sorted(x, func(i int) bool { return y[i] }))
			if Within(a, b) != (len(minus) == 0) {
				t.Errorf("Within %v and %v", List(a), List(b))
			}
			if Same(a, b) != (len(minus) == 0 && len(x) == len(y)) {
				t.Errorf("Same %v and %v", List(a), List(b))
			}
		}
	}
}

func TestTwoSetsExamples(t *testing.T) { // P1.5, P1.6
	a, b := api.Bits{2, 1}, api.Bits{6}
	if !slices.Equal(Union(a, b), api.Bits{6, 1}) || !slices.Equal(Minus(a, b), api.Bits{0, 1}) || !slices.Equal(Both(a, b), api.Bits{2}) {
		t.Error("Union, Minus, Both")
	}
	if !Same(api.Bits{2}, api.Bits{2, 0}) || Same(api.Bits{2}, api.Bits{2, 1}) || !Same(nil, api.Bits{0}) {
		t.Error("Same")
	}
	if !Within(api.Bits{2, 0, 0}, b) || Within(a, b) || !Within(nil, nil) || !Within(api.Bits{}, b) || Within(b, nil) {
		t.Error("Within")
	}
}

// algebraSets returns the sets of all choices from elements in three words, some with a zero word at the end.
func algebraSets() []api.Bits {
	sets := []api.Bits{}
	for choice := range 16 {
		b := make(api.Bits, 3+choice%2)
		for i, x := range []int{0, 63, 64, 130} {
			if choice>>i&1 == 1 {
				b[x/64] |= 1 << (x % 64)
			}
		}
		sets = append(sets, b)
	}
	return sets
}

func TestAlgebra(t *testing.T) { // P1.7
	equal := func(what string, a, b api.Bits) {
		if !slices.Equal(a, b) {
			t.Errorf("%s: %v, %v", what, a, b)
		}
	}
	for _, a := range algebraSets() {
		for _, b := range algebraSets() {
			equal("Union commutes", Union(a, b), Union(b, a))
			equal("Both commutes", Both(a, b), Both(b, a))
			if Count(Union(a, b))+Count(Both(a, b)) != Count(a)+Count(b) {
				t.Errorf("Counts of %v and %v", a, b)
			}
			if Same(a, b) != (Within(a, b) && Within(b, a)) {
				t.Errorf("Within both ways: %v and %v", a, b)
			}
			for _, c := range algebraSets() {
				equal("Union associates", Union(Union(a, b), c), Union(a, Union(b, c)))
				equal("Both associates", Both(Both(a, b), c), Both(a, Both(b, c)))
				equal("Union over Both", Union(a, Both(b, c)), Both(Union(a, b), Union(a, c)))
				equal("Both over Union", Both(a, Union(b, c)), Union(Both(a, b), Both(a, c)))
				equal("Minus a Union", Minus(a, Union(b, c)), Minus(Minus(a, b), c))
			}
		}
	}
}

// withSpare returns a copy of b whose spare capacity is marked, and the whole memory of the copy.
func withSpare(b api.Bits) (part, whole api.Bits) {
	whole = make(api.Bits, len(b)+2000)
	for i := range whole {
		whole[i] = 0xabcd
	}
	copy(whole, b)
	return whole[:len(b)], whole
}

func TestArgumentsStayAndResultsAreNew(t *testing.T) { // R5
	for name, call := range map[string]func(a, b api.Bits) api.Bits{
		"With":           func(a, b api.Bits) api.Bits { r, _ := With(a, 1); return r },
		"With, far":      func(a, b api.Bits) api.Bits { r, _ := With(a, 65535); return r },
		"Without":        func(a, b api.Bits) api.Bits { return Without(a, 64) },
		"Without, far":   func(a, b api.Bits) api.Bits { return Without(a, -1) },
		"Union":          Union,
		"Union, turned":  func(a, b api.Bits) api.Bits { return Union(b, a) },
		"Minus":          Minus,
		"Minus, nothing": func(a, b api.Bits) api.Bits { return Minus(a, nil) },
		"Both":           Both,
		"Both, one":      func(a, b api.Bits) api.Bits { return Both(a, a) },
		"others": func(a, b api.Bits) api.Bits {
			Check(a)
			List(a)
			Has(a, 1)
			Within(a, b)
			Same(a, b)
			Count(a)
			Next(a, 0)
			return nil
		},
	} {
		for _, first := range samples() {
			for _, second := range samples() {
				a, wholeA := withSpare(first)
				b, wholeB := withSpare(second)
				beforeA, beforeB := slices.Clone(wholeA), slices.Clone(wholeB)
				r := call(a, b)
				r = r[:cap(r)]
				for i := range r {
					r[i] = ^r[i]
				}
				if !slices.Equal(wholeA, beforeA) || !slices.Equal(wholeB, beforeB) {
					t.Fatalf("%s: an argument was changed, or shares memory with the result", name)
				}
			}
		}
	}
}
