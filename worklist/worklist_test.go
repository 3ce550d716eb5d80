package worklist

import (
	"math"
	"slices"
	"testing"

	"dataflow/api"
)

// farNumbers are numbers that are not items, with or without a rank of fewer than 100 numbers.
var farNumbers = []int{math.MinInt, math.MinInt + 1, -8193, -64, -1, api.MaxElem, api.MaxElem + 1, 1 << 32, math.MaxInt}

// ranks are ranks of up to four items: equal priorities, priorities against the order of the items, and the ends of the range of int.
var ranks = [][]int{
	nil, {}, {0}, {-7}, {5, 1}, {1, 5}, {3, 3}, {0, 0, 0}, {2, 1, 0}, {0, 2, 1}, {1, 0, 1},
	{math.MaxInt, math.MinInt, 0}, {math.MinInt, math.MaxInt}, {math.MaxInt, math.MinInt + 1, math.MaxInt - 1}, {4, 4, 2, 2}, {1, 2, 1, 2},
}

// upTo returns the numbers from 0 to n-1.
func upTo(n int) []int {
	l := []int{}
	for i := range n {
		l = append(l, i)
	}
	return l
}

// lists returns all lists of at most the given length of numbers from low to high.
func lists(length, low, high int) [][]int {
	all := [][]int{{}}
	for i := 0; i < len(all); i++ {
		if len(all[i]) == length {
			continue
		}
		for x := low; x <= high; x++ {
			all = append(all, append(slices.Clone(all[i]), x))
		}
	}
	return all
}

// mayPrecede is the model of the order: with this rank, x may be an item before y.
func mayPrecede(rank []int, x, y int) bool {
	if len(rank) == 0 {
		return true
	}
	return rank[x] < rank[y] || rank[x] == rank[y] && x < y
}

// wantCheck is the model of Check for lists within the limits: it compares each item with all items before it.
func wantCheck(q api.Queue) api.Errno {
	limit := len(q.Rank)
	if limit == 0 {
		limit = api.MaxElem
	}
	for i, x := range q.Items {
		if x < 0 || x >= limit {
			return api.ErrRange
		}
		if slices.Index(q.Items, x) < i {
			return api.ErrExists
		}
		if i > 0 && !mayPrecede(q.Rank, q.Items[i-1], x) {
			return api.ErrOrder
		}
	}
	return api.OK
}

// samples returns worklists of all ranks with all short lists of items, many of them not valid.
func samples() []api.Queue {
	all := []api.Queue{}
	for _, rank := range ranks {
		for _, items := range lists(4, -1, max(len(rank), 2)) {
			all = append(all, api.Queue{Rank: rank, Items: items})
		}
	}
	return all
}

// valid returns the samples that are valid by the model.
func valid() []api.Queue {
	return slices.DeleteFunc(samples(), func(q api.Queue) bool { return wantCheck(q) != api.OK })
}

func isZero(q api.Queue) bool { return len(q.Rank) == 0 && len(q.Items) == 0 }

func same(a, b api.Queue) bool { return slices.Equal(a.Rank, b.Rank) && slices.Equal(a.Items, b.Items) }

func TestCheck(t *testing.T) { // P3.1
	long := upTo(api.MaxNodes + 1)
	turned := upTo(api.MaxNodes)
	slices.Reverse(turned)
	for _, c := range []struct {
		name        string
		rank, items []int
		want        api.Errno
	}{
		{"zero", nil, nil, api.OK},
		{"empty", []int{}, []int{}, api.OK},
		{"without a rank", nil, []int{7, 3, 5}, api.OK},
		{"the greatest item", nil, []int{65535, 0}, api.OK},
		{"the example", []int{5, 1}, []int{1, 0}, api.OK},
		{"the example, turned", []int{5, 1}, []int{0, 1}, api.ErrOrder},
		{"equal priorities", []int{2, 2, 2}, []int{0, 2}, api.OK},
		{"equal priorities, turned", []int{2, 2, 2}, []int{2, 0}, api.ErrOrder},
		{"far priorities", []int{math.MaxInt, math.MinInt}, []int{1, 0}, api.OK},
		{"far priorities, turned", []int{math.MaxInt, math.MinInt}, []int{0, 1}, api.ErrOrder},
		{"below 0", nil, []int{-1}, api.ErrRange},
		{"below 0, with a rank", []int{1}, []int{-1}, api.ErrRange},
		{"too great", nil, []int{65536}, api.ErrRange},
		{"too great for the rank", []int{1, 1}, []int{2}, api.ErrRange},
		{"the least int", nil, []int{math.MinInt}, api.ErrRange},
		{"the greatest int", nil, []int{math.MaxInt}, api.ErrRange},
		{"the greatest int, with a rank", []int{3}, []int{math.MaxInt}, api.ErrRange},
		{"twice", nil, []int{4, 4}, api.ErrExists},
		{"twice with others between", nil, []int{4, 65535, 3, 4}, api.ErrExists},
		{"twice, with a rank", []int{5, 1}, []int{1, 1}, api.ErrExists},
		{"twice and not in order", []int{5, 1}, []int{1, 0, 1}, api.ErrExists},
		{"not in order first", []int{5, 1}, []int{0, 1, 1}, api.ErrOrder},
		{"not in order before range", []int{5, 1}, []int{0, 1, 2}, api.ErrOrder},
		{"range before order", []int{5, 1}, []int{2, 0, 1}, api.ErrRange},
		{"range before twice", nil, []int{4, -1, 4}, api.ErrRange},
		{"twice before range", nil, []int{4, 4, -1}, api.ErrExists},
		{"all items", nil, long[:api.MaxNodes], api.OK},
		{"all items with a rank", make([]int, api.MaxNodes), long[:api.MaxNodes], api.OK},
		{"all items, turned", nil, turned, api.OK},
		{"all items with a rank, turned", long[:api.MaxNodes], turned, api.ErrOrder},
		{"a rank that is too long", long, nil, api.ErrTooLong},
		{"too many items", nil, long, api.ErrTooLong},
		{"too many items with a rank", []int{1}, long, api.ErrTooLong},
		{"a rank that is too long, and range", long, []int{-1}, api.ErrTooLong},
		{"a rank that is too long, and order", long, []int{1, 0}, api.ErrTooLong},
		{"too many items, and twice", nil, make([]int, api.MaxNodes+1), api.ErrTooLong},
	} {
		if e := Check(api.Queue{Rank: c.rank, Items: c.items}); e != c.want {
			t.Errorf("%s: %d, want %d", c.name, int(e), int(c.want))
		}
	}
}

func TestCheckOfAllSamples(t *testing.T) { // P3.1
	found := map[api.Errno]int{}
	for _, q := range samples() {
		want := wantCheck(q)
		found[want]++
		if e := Check(q); e != want {
			t.Errorf("Check %v: %d, want %d", q, int(e), int(want))
		}
	}
	if found[api.OK] == 0 || found[api.ErrRange] == 0 || found[api.ErrExists] == 0 || found[api.ErrOrder] == 0 {
		t.Errorf("the samples have %v", found)
	}
}

func TestNew(t *testing.T) { // P3.2
	for _, rank := range append(slices.Clone(ranks), make([]int, api.MaxNodes)) {
		q, e := New(rank...)
		if e != api.OK || !slices.Equal(q.Rank, rank) || len(q.Items) != 0 {
			t.Errorf("New of %d numbers: %d", len(rank), int(e))
		}
	}
	for _, n := range []int{api.MaxNodes + 1, 3 * api.MaxNodes} {
		if q, e := New(make([]int, n)...); e != api.ErrTooLong || !isZero(q) {
			t.Errorf("New of %d numbers: %d", n, int(e))
		}
	}
	first, _ := New()
	first, _ = Push(first, 1)
	first, _ = Push(first, 0)
	second, _ := New(5, 1)
	second, _ = Push(second, 0)
	second, _ = Push(second, 1)
	for _, q := range []api.Queue{first, second} {
		if x, _, ok := Pop(q); x != 1 || !ok {
			t.Errorf("Pop %v: %d", q, x)
		}
	}
}

func TestPush(t *testing.T) { // P3.3
	for _, q := range valid() {
		for x := -1; x <= 5; x++ {
			r, e := Push(q, x)
			if x < 0 || len(q.Rank) > 0 && x >= len(q.Rank) {
				if e != api.ErrRange || !isZero(r) {
					t.Errorf("Push %v %d: %v %d", q, x, r, int(e))
				}
				continue
			}
			want := slices.Clone(q.Items)
			if !slices.Contains(want, x) {
				at := slices.IndexFunc(want, func(y int) bool { return len(q.Rank) > 0 && mayPrecede(q.Rank, x, y) })
				if at < 0 {
					at = len(want)
				}
				want = slices.Insert(want, at, x)
			}
			if e != api.OK || !same(r, api.Queue{Rank: q.Rank, Items: want}) {
				t.Errorf("Push %v %d: %v %d", q, x, r, int(e))
			}
		}
		for _, x := range farNumbers {
			if r, e := Push(q, x); e != api.ErrRange || !isZero(r) {
				t.Errorf("Push %v %d: %v %d", q, x, r, int(e))
			}
		}
	}
}

func TestPushAtTheLimits(t *testing.T) { // P3.3
	full := api.Queue{Items: upTo(api.MaxNodes)}
	if r, e := Push(full, 8191); e != api.OK || !same(r, full) {
		t.Error("an item that is there")
	}
	for _, x := range []int{8192, 65535} {
		if r, e := Push(full, x); e != api.ErrTooLong || !isZero(r) {
			t.Errorf("%d: error %d", x, int(e))
		}
	}
	if r, e := Push(full, 65536); e != api.ErrRange || !isZero(r) {
		t.Error("too great for any worklist")
	}
	nearly := api.Queue{Items: full.Items[1:]}
	if r, e := Push(nearly, 65535); e != api.OK || len(r.Items) != api.MaxNodes || r.Items[api.MaxNodes-1] != 65535 {
		t.Error("the last one that has room")
	}
	ranked := api.Queue{Rank: make([]int, api.MaxNodes), Items: full.Items}
	if r, e := Push(ranked, 8191); e != api.OK || !same(r, ranked) {
		t.Error("an item that is there, with a rank")
	}
	if r, e := Push(ranked, 8192); e != api.ErrRange || !isZero(r) {
		t.Error("too great for the rank")
	}
	ranked.Items = full.Items[1:]
	if r, e := Push(ranked, 0); e != api.OK || !slices.Equal(r.Items, full.Items) {
		t.Error("the last one that has room, with a rank")
	}
}

func TestWorklistsThatAreNotValid(t *testing.T) { // P3.3, P3.4, P3.5
	long := []api.Queue{{Rank: upTo(api.MaxNodes + 1)}, {Items: upTo(api.MaxNodes + 1)}, {Rank: upTo(api.MaxNodes + 1), Items: []int{0}}}
	for _, q := range append(samples(), long...) {
		want := Check(q)
		if want == api.OK {
			continue
		}
		for _, x := range append([]int{0, 1, 2}, farNumbers...) {
			if r, e := Push(q, x); e != want || !isZero(r) {
				t.Fatalf("Push: error %d, want %d", int(e), int(want))
			}
			if Has(q, x) {
				t.Fatalf("Has %d", x)
			}
		}
		if x, rest, ok := Pop(q); x != 0 || !isZero(rest) || ok {
			t.Fatalf("Pop: %d %v %t", x, rest, ok)
		}
		if Len(q) != 0 || len(Drain(q)) != 0 {
			t.Fatal("Len, Drain")
		}
	}
}

func TestPopDrain(t *testing.T) { // P3.4
	for _, q := range valid() {
		if got := Drain(q); !slices.Equal(got, q.Items) {
			t.Errorf("Drain %v: %v", q, got)
		}
		x, rest, ok := Pop(q)
		if len(q.Items) == 0 {
			if x != 0 || !isZero(rest) || ok {
				t.Errorf("Pop %v: %d %v %t", q, x, rest, ok)
			}
			continue
		}
		if x != q.Items[0] || !ok || !same(rest, api.Queue{Rank: q.Rank, Items: q.Items[1:]}) {
			t.Errorf("Pop %v: %d %v %t", q, x, rest, ok)
		}
	}
	if x, rest, ok := Pop(api.Queue{Rank: []int{5, 1}, Items: []int{1, 0}}); x != 1 || !ok || !slices.Equal(rest.Items, []int{0}) {
		t.Errorf("Pop of the example: %d %v", x, rest)
	}
}

func TestDrainIsPopAgainAndAgain(t *testing.T) { // P3.4
	for _, q := range valid() {
		want, popped := Drain(q), []int{}
		for x, rest, ok := Pop(q); ok; x, rest, ok = Pop(rest) {
			popped = append(popped, x)
		}
		if !slices.Equal(popped, want) {
			t.Errorf("%v: popped %v, drained %v", q, popped, want)
		}
	}
}

func TestLenHas(t *testing.T) { // P3.5
	for _, q := range valid() {
		there := map[int]bool{}
		for _, x := range q.Items {
			there[x] = true
		}
		if got := Len(q); got != len(there) {
			t.Errorf("Len %v: %d", q, got)
		}
		for _, x := range append(upTo(6), farNumbers...) {
			if Has(q, x) != there[x] {
				t.Errorf("Has %v %d", q, x)
			}
		}
	}
	if Len(api.Queue{Items: upTo(api.MaxNodes)}) != api.MaxNodes || !Has(api.Queue{Items: []int{65535}}, 65535) {
		t.Error("at the limits")
	}
}

// model is a worklist as the set of its items with the time of their arrival.
type model struct {
	rank    []int
	arrival map[int]int
	time    int
}

func (m *model) push(x int) {
	if _, ok := m.arrival[x]; !ok {
		m.arrival[x] = m.time
	}
	m.time++
}

// pop removes the item that must be next: with a rank, the one that may precede all others, and otherwise the one that arrived first.
func (m *model) pop() (next int, ok bool) {
	for x := range m.arrival {
		earlier := m.arrival[x] < m.arrival[next]
		if len(m.rank) > 0 {
			earlier = mayPrecede(m.rank, x, next)
		}
		if !ok || earlier {
			next, ok = x, true
		}
	}
	delete(m.arrival, next)
	return next, ok
}

func TestOnceAndOrder(t *testing.T) { // P3.6, P3.7
	for _, rank := range [][]int{nil, {0, 0, 0}, {5, 1, 3}, {1, 0, 1}, {math.MaxInt, 0, math.MinInt}} {
		for _, steps := range lists(6, -1, 2) {
			m := &model{rank: rank, arrival: map[int]int{}}
			q, _ := New(rank...)
			for _, x := range steps {
				q = takeStep(t, m, q, x)
			}
		}
	}
}

// takeStep pops an item if x is below 0 and pushes x otherwise, and compares the worklist with the model.
func takeStep(t *testing.T, m *model, q api.Queue, x int) api.Queue {
	t.Helper()
	if x < 0 {
		want, wantOK := m.pop()
		x, rest, ok := Pop(q)
		if x != want || ok != wantOK {
			t.Fatalf("Pop %v: %d %t, want %d %t", q, x, ok, want, wantOK)
		}
		if !ok {
			return q
		}
		q = rest
	} else {
		m.push(x)
		q, _ = Push(q, x)
	}
	if Check(q) != api.OK || len(q.Items) != len(m.arrival) || !slices.Equal(q.Rank, m.rank) {
		t.Fatalf("%v has not the items %v", q, m.arrival)
	}
	for x := range m.arrival {
		if !slices.Contains(q.Items, x) {
			t.Fatalf("%v has lost %d", q, x)
		}
	}
	return q
}

func TestManyItems(t *testing.T) { // P3.6, P3.7
	const n = api.MaxNodes
	rank, items := make([]int, n), []int{}
	for x := range n {
		rank[x] = x % 3
		items = append(items, x*5%n)
	}
	q, _ := New(rank...)
	f, _ := New()
	for _, x := range items {
		q, _ = Push(q, x)
		f, _ = Push(f, x)
		f, _ = Push(f, items[0])
	}
	if !slices.Equal(Drain(f), items) {
		t.Error("first in, first out")
	}
	want := []int{}
	for p := range 3 {
		for x := p; x < n; x += 3 {
			want = append(want, x)
		}
	}
	if !slices.Equal(Drain(q), want) {
		t.Error("with a rank")
	}
}

// withSpare returns a copy of l with spare capacity, and the whole memory of the copy.
func withSpare(l []int) (part, whole []int) {
	whole = append(slices.Clone(l), 77, 78, 79)
	return whole[:len(l)], whole
}

func TestArgumentsStayAndResultsAreNew(t *testing.T) { // R5
	calls := map[string]func(q api.Queue) api.Queue{
		"New":                    func(q api.Queue) api.Queue { r, _ := New(q.Rank...); return r },
		"Push":                   func(q api.Queue) api.Queue { r, _ := Push(q, 0); return r },
		"Push, other":            func(q api.Queue) api.Queue { r, _ := Push(q, 1); return r },
		"Push, not an item":      func(q api.Queue) api.Queue { r, _ := Push(q, -1); return r },
		"Pop":                    func(q api.Queue) api.Queue { _, r, _ := Pop(q); return r },
		"Drain":                  func(q api.Queue) api.Queue { return api.Queue{Items: Drain(q)} },
		"those without a result": func(q api.Queue) api.Queue { Check(q); Len(q); Has(q, 1); return api.Queue{} },
	}
	for name, call := range calls {
		for _, sample := range samples() {
			rank, wholeRank := withSpare(sample.Rank)
			items, wholeItems := withSpare(sample.Items)
			beforeRank, beforeItems := slices.Clone(wholeRank), slices.Clone(wholeItems)
			r := call(api.Queue{Rank: rank, Items: items})
			wantItems := slices.Clone(r.Items)
			spoil(r.Rank)
			if !slices.Equal(r.Items, wantItems) {
				t.Fatalf("%s: the lists of the result share memory", name)
			}
			spoil(r.Items)
			if !slices.Equal(wholeRank, beforeRank) || !slices.Equal(wholeItems, beforeItems) {
				t.Fatalf("%s: an argument was changed, or shares memory with the result", name)
			}
		}
	}
}

// spoil overwrites the whole memory of a list.
func spoil(l []int) {
	l = l[:cap(l)]
	for i := range l {
		l[i] = -9
	}
}
