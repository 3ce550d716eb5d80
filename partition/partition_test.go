package partition

import (
	"math"
	"slices"
	"testing"

	"dataflow/api"
)

// farNumbers are numbers that no partition of fewer than 100 numbers has.
var farNumbers = []int{math.MinInt, -8193, -1, 100, 8192, 8193, 1 << 32, math.MaxInt}

// partitions returns all partitions of 0 to n-1: each number begins a class or joins an earlier one.
func partitions(n int) [][]int {
	all := [][]int{{}}
	for x := range n {
		var longer [][]int
		for _, p := range all {
			for i, least := range p {
				if i == least {
					longer = append(longer, append(slices.Clone(p), i))
				}
			}
			longer = append(longer, append(slices.Clone(p), x))
		}
		all = longer
	}
	return all
}

// pairLists returns all lists of at most three pairs of the numbers from 0 to n-1.
func pairLists(n int) [][]api.Edge {
	all := [][]api.Edge{nil}
	for i := 0; i < len(all); i++ {
		if len(all[i]) == 3 {
			continue
		}
		for x := range n * n {
			all = append(all, append(slices.Clone(all[i]), api.Edge{From: x / n, To: x % n}))
		}
	}
	return all
}

// closure is the model of Of: labels are made equal pair by pair, and each number gets the least one with its label.
func closure(n int, pairs []api.Edge) []int {
	label := []int{}
	for i := range n {
		label = append(label, i)
	}
	for _, pair := range pairs {
		from, to := label[pair.From], label[pair.To]
		for i := range label {
			if label[i] == from {
				label[i] = to
			}
		}
	}
	p := []int{}
	for i := range label {
		p = append(p, slices.Index(label, label[i]))
	}
	return p
}

func upTo(n int) []int {
	p := []int{}
	for i := range n {
		p = append(p, i)
	}
	return p
}

func TestCheck(t *testing.T) { // P2.1
	for _, c := range []struct {
		name string
		p    []int
		want api.Errno
	}{
		{"nil", nil, api.OK},
		{"empty", []int{}, api.OK},
		{"one", []int{0}, api.OK},
		{"0 0 2", []int{0, 0, 2}, api.OK},
		{"crossing classes", []int{0, 1, 0, 1}, api.OK},
		{"not the least", []int{0, 0, 1}, api.ErrInvalid},
		{"above the first", []int{1, 1}, api.ErrRange},
		{"below 0", []int{0, -1}, api.ErrRange},
		{"the least int", []int{math.MinInt}, api.ErrRange},
		{"above its index", []int{0, 2, 2}, api.ErrRange},
		{"the greatest int", []int{0, math.MaxInt}, api.ErrRange},
		{"range first", []int{0, 0, 9, 1}, api.ErrRange},
		{"invalid first", []int{0, 0, 1, 9}, api.ErrInvalid},
		{"as many as possible", upTo(8192), api.OK},
		{"as many as possible in one", make([]int, 8192), api.OK},
		{"too many", upTo(8193), api.ErrTooLong},
		{"too many in one", make([]int, 8193), api.ErrTooLong},
		{"too many and range", append([]int{5}, make([]int, 8192)...), api.ErrTooLong},
		{"too many and invalid", append([]int{0, 0, 1}, make([]int, 8190)...), api.ErrTooLong},
	} {
		if e := Check(c.p); e != c.want {
			t.Errorf("%s: %d, want %d", c.name, int(e), int(c.want))
		}
	}
}

func TestCheckAcceptsExactlyThePartitions(t *testing.T) { // P2.1
	for n, want := range []int{1, 1, 2, 5, 15, 52} {
		known := partitions(n)
		if len(known) != want {
			t.Fatalf("%d partitions of %d numbers", len(known), n)
		}
		lists := [][]int{{}}
		for range n {
			var longer [][]int
			for _, l := range lists {
				for v := -1; v <= n; v++ {
					longer = append(longer, append(slices.Clone(l), v))
				}
			}
			lists = longer
		}
		for _, l := range lists {
			valid := slices.ContainsFunc(known, func(p []int) bool { return slices.Equal(p, l) })
			if (Check(l) == api.OK) != valid {
				t.Errorf("Check %v: %d", l, int(Check(l)))
			}
		}
	}
}

func TestNew(t *testing.T) { // P2.2
	for _, n := range []int{0, 1, 3, 8191, 8192} {
		if p, e := New(n); e != api.OK || !slices.Equal(p, upTo(n)) {
			t.Errorf("New %d: error %d", n, int(e))
		}
	}
	for _, n := range []int{-1, 8193, math.MinInt, math.MaxInt} {
		if p, e := New(n); e != api.ErrRange || len(p) != 0 {
			t.Errorf("New %d: error %d", n, int(e))
		}
	}
}

func TestFindAndSame(t *testing.T) { // P2.3
	if x, e := Find([]int{0, 0, 2}, 1); x != 0 || e != api.OK {
		t.Error("Find of 1 in 0 0 2")
	}
	for _, p := range partitions(5) {
		for x := range p {
			if least, e := Find(p, x); least != p[x] || e != api.OK {
				t.Errorf("Find %v %d: %d %d", p, x, least, int(e))
			}
			for y := range p {
				if Same(p, x, y) != (p[x] == p[y]) {
					t.Errorf("Same %v %d %d", p, x, y)
				}
			}
		}
		for _, x := range append([]int{5}, farNumbers...) {
			if least, e := Find(p, x); least != 0 || e != api.ErrRange {
				t.Errorf("Find %v %d: %d %d", p, x, least, int(e))
			}
			if Same(p, x, 1) || Same(p, 1, x) || Same(p, x, x) {
				t.Errorf("Same %v %d", p, x)
			}
		}
	}
	if Same(nil, 0, 0) {
		t.Error("Same in no numbers")
	}
}

func TestPartitionsThatAreNotValid(t *testing.T) { // P2.3, P2.4, P2.6
	for _, c := range []struct {
		p    []int
		want api.Errno
	}{{[]int{0, 0, 1}, api.ErrInvalid}, {[]int{1, 1}, api.ErrRange}, {[]int{0, -1}, api.ErrRange}, {make([]int, 8193), api.ErrTooLong}} {
		for _, x := range append([]int{0, 1}, farNumbers...) {
			if least, e := Find(c.p, x); least != 0 || e != c.want {
				t.Errorf("Find: %d %d, want %d", least, int(e), int(c.want))
			}
			if q, e := Join(c.p, x, 0); len(q) != 0 || e != c.want {
				t.Errorf("Join: error %d, want %d", int(e), int(c.want))
			}
			if Same(c.p, x, x) || Same(c.p, 0, x) {
				t.Error("Same")
			}
		}
		if l, e := Classes(c.p); len(l) != 0 || e != c.want {
			t.Errorf("Classes: error %d, want %d", int(e), int(c.want))
		}
		ones := make([]int, len(c.p))
		if Finer(c.p, c.p) || Finer(c.p, ones) || Finer(ones, c.p) {
			t.Error("Finer")
		}
	}
}

func TestClasses(t *testing.T) { // P2.3
	if l, e := Classes([]int{0, 0, 2}); e != api.OK || len(l) != 2 || !slices.Equal(l[0], []int{0, 1}) || !slices.Equal(l[1], []int{2}) {
		t.Errorf("Classes of 0 0 2: %v", l)
	}
	for n := range 6 {
		for _, p := range partitions(n) {
			var want [][]int
			for least := range n {
				var class []int
				for x := range n {
					if p[x] == least {
						class = append(class, x)
					}
				}
				if class != nil {
					want = append(want, class)
				}
			}
			l, e := Classes(p)
			if e != api.OK || !slices.EqualFunc(l, want, slices.Equal[[]int]) {
				t.Errorf("Classes %v: %v, want %v", p, l, want)
			}
		}
	}
}

func TestClassesShareNoMemory(t *testing.T) { // R5
	p := []int{0, 1, 0, 1, 4, 0}
	l, _ := Classes(p)
	for c := range l {
		whole := l[c][:cap(l[c])]
		for i := range whole {
			whole[i] = -c - 1
		}
	}
	for c, class := range l {
		for _, x := range class {
			if x != -c-1 {
				t.Errorf("class %d shares memory", c)
			}
		}
	}
	if !slices.Equal(p, []int{0, 1, 0, 1, 4, 0}) {
		t.Error("the argument was changed")
	}
}

func TestJoin(t *testing.T) { // P2.4
	if q, e := Join([]int{0, 0, 2}, 1, 2); e != api.OK || !slices.Equal(q, []int{0, 0, 0}) {
		t.Errorf("Join 0 0 2 with 1 and 2: %v", q)
	}
	for n := range 6 {
		for _, p := range partitions(n) {
			for x := range n {
				for y := range n {
					q, e := Join(p, x, y)
					if e != api.OK || len(q) != n || Check(q) != api.OK {
						t.Fatalf("Join %v %d %d: %v %d", p, x, y, q, int(e))
					}
					checkJoined(t, p, q, x, y)
				}
				for _, y := range append([]int{n}, farNumbers...) {
					if q, e := Join(p, x, y); e != api.ErrRange || len(q) != 0 {
						t.Errorf("Join %v %d %d: %v %d", p, x, y, q, int(e))
					}
					if q, e := Join(p, y, x); e != api.ErrRange || len(q) != 0 {
						t.Errorf("Join %v %d %d: %v %d", p, y, x, q, int(e))
					}
				}
			}
		}
	}
}

// checkJoined fails the test unless exactly the classes of x and y of p are one in q.
func checkJoined(t *testing.T, p, q []int, x, y int) {
	t.Helper()
	joined := func(i int) bool { return p[i] == p[x] || p[i] == p[y] }
	for i := range p {
		for j := range p {
			together := p[i] == p[j] || joined(i) && joined(j)
			if (q[i] == q[j]) != together {
				t.Errorf("Join %v %d %d: %v", p, x, y, q)
				return
			}
		}
	}
}

func TestOf(t *testing.T) { // P2.5
	if q, e := Of(4, api.Edge{From: 3, To: 1}, api.Edge{From: 1, To: 2}); e != api.OK || !slices.Equal(q, []int{0, 1, 1, 1}) {
		t.Errorf("Of 4 with 3 1 and 1 2: %v", q)
	}
	for n := range 5 {
		for _, pairs := range pairLists(n) {
			if q, e := Of(n, pairs...); e != api.OK || !slices.Equal(q, closure(n, pairs)) {
				t.Errorf("Of %d %v: %v %d", n, pairs, q, int(e))
			}
		}
	}
}

func TestOfErrors(t *testing.T) { // P2.5
	for _, n := range []int{-1, 8193, math.MinInt, math.MaxInt} {
		if q, e := Of(n, api.Edge{From: 0, To: 0}); e != api.ErrRange || len(q) != 0 {
			t.Errorf("Of %d: %d", n, int(e))
		}
		if q, e := Of(n); e != api.ErrRange || len(q) != 0 {
			t.Errorf("Of %d: %d", n, int(e))
		}
	}
	for _, x := range append([]int{3}, farNumbers...) {
		for _, pair := range []api.Edge{{From: x, To: 0}, {From: 0, To: x}, {From: x, To: x}} {
			if q, e := Of(3, api.Edge{From: 0, To: 1}, pair, api.Edge{From: 1, To: 2}); e != api.ErrRange || len(q) != 0 {
				t.Errorf("Of 3 with %v: %v %d", pair, q, int(e))
			}
		}
	}
	if q, e := Of(0, api.Edge{}); e != api.ErrRange || len(q) != 0 {
		t.Error("Of 0 with 0 0")
	}
}

func TestOfWithManyNumbers(t *testing.T) { // P2.5
	const n = api.MaxNodes
	var chain, steps []api.Edge
	for i := n - 1; i > 0; i-- {
		chain = append(chain, api.Edge{From: i - 1, To: i})
	}
	for i := range n - 3 {
		steps = append(steps, api.Edge{From: i + 3, To: i})
	}
	if q, e := Of(n, chain...); e != api.OK || !slices.Equal(q, make([]int, n)) {
		t.Error("a chain of all numbers")
	}
	q, e := Of(n, steps...)
	if e != api.OK {
		t.Fatal("steps of three")
	}
	for i := range q {
		if q[i] != i%3 {
			t.Fatalf("steps of three: %d is with %d", i, q[i])
		}
	}
}

func TestFiner(t *testing.T) { // P2.6
	if !Finer([]int{0, 1, 2}, []int{0, 0, 2}) || Finer([]int{0, 0, 2}, []int{0, 1, 2}) {
		t.Error("0 1 2 and 0 0 2")
	}
	if !Finer(nil, nil) || !Finer([]int{}, nil) || Finer(nil, []int{0}) || Finer([]int{0}, []int{0, 1}) || Finer([]int{0, 1}, []int{0}) {
		t.Error("numbers of numbers")
	}
	for n := range 6 {
		for _, a := range partitions(n) {
			for _, b := range partitions(n) {
				want := true
				for i := range a {
					for j := range a {
						want = want && (a[i] != a[j] || b[i] == b[j])
					}
				}
				if Finer(a, b) != want {
					t.Errorf("Finer %v %v: %t", a, b, !want)
				}
			}
		}
	}
}

func TestOfIsTheFinest(t *testing.T) { // P2.7
	const n = 4
	for _, pairs := range pairLists(n) {
		q, _ := Of(n, pairs...)
		for _, p := range partitions(n) {
			together := true
			for _, pair := range pairs {
				together = together && Same(p, pair.From, pair.To)
			}
			if Finer(q, p) != together {
				t.Errorf("Of %v is %v; Finer than %v: %t", pairs, q, p, !together)
			}
		}
	}
}

func TestOfDoesNotDependOnTheOrder(t *testing.T) { // P2.8
	const n = 4
	for _, pairs := range pairLists(n) {
		q, _ := Of(n, pairs...)
		joined, _ := New(n)
		for _, pair := range pairs {
			joined, _ = Join(joined, pair.From, pair.To)
		}
		if !slices.Equal(q, joined) {
			t.Errorf("Of %v: %v; joined one by one: %v", pairs, q, joined)
		}
		turned := slices.Clone(pairs)
		slices.Reverse(turned)
		for i, pair := range turned {
			if i%2 == 0 {
				turned[i] = api.Edge{From: pair.To, To: pair.From}
			}
		}
		if r, _ := Of(n, turned...); !slices.Equal(q, r) {
			t.Errorf("Of %v: %v; of %v: %v", pairs, q, turned, r)
		}
	}
}

func TestSameIsAnEquivalence(t *testing.T) { // P2.9
	for _, p := range partitions(5) {
		for x := range p {
			if !Same(p, x, x) {
				t.Errorf("%v: %d is not with itself", p, x)
			}
			for y := range p {
				if Same(p, x, y) != Same(p, y, x) {
					t.Errorf("%v: %d and %d in one order only", p, x, y)
				}
				for z := range p {
					if Same(p, x, y) && Same(p, y, z) && !Same(p, x, z) {
						t.Errorf("%v: %d, %d, %d", p, x, y, z)
					}
				}
			}
		}
	}
}

func TestArgumentsStayAndResultsAreNew(t *testing.T) { // R5
	given := []int{0, 0, 2, 2, 4}
	whole := append(slices.Clone(given), 77, 78, 79)
	before := slices.Clone(whole)
	p := whole[:len(given)]
	spoil := func(what string, r []int) {
		r = r[:cap(r)]
		for i := range r {
			r[i] = -1
		}
		if !slices.Equal(whole, before) {
			t.Fatalf("%s: the argument was changed, or shares memory with the result", what)
		}
	}
	for x := range given {
		for y := range given {
			q, _ := Join(p, x, y)
			spoil("Join", q)
		}
	}
	classes, _ := Classes(p)
	for _, class := range classes {
		spoil("Classes", class)
	}
	Check(p)
	Find(p, 3)
	Same(p, 2, 3)
	Finer(p, p)
	spoil("others", nil)
	pairs := []api.Edge{{From: 3, To: 1}, {From: 1, To: 2}}
	kept := slices.Clone(pairs)
	Of(4, pairs...)
	if !slices.Equal(pairs, kept) {
		t.Error("Of changed its pairs")
	}
	first, _ := New(3)
	first[0] = 9
	if second, _ := New(3); second[0] != 0 {
		t.Error("two results of New share memory")
	}
}
