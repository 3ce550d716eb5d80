package graph

import (
	"math"
	"slices"
	"testing"

	"dataflow/api"
)

// farNumbers are numbers that are not nodes of a graph of fewer than 100 nodes.
var farNumbers = []int{math.MinInt, math.MinInt + 1, -8193, -1, 100, 8191, 8192, 8193, 1 << 32, math.MaxInt}

// edges returns the edges with these ends, two numbers each.
func edges(ends ...int) []api.Edge {
	l := []api.Edge{}
	for i := 0; i+1 < len(ends); i += 2 {
		l = append(l, api.Edge{From: ends[i], To: ends[i+1]})
	}
	return l
}

// build returns the graph with n nodes whose edge from v to w is there if bit v*n+w of choice is set.
func build(n int, choice uint) api.Graph {
	g := api.Graph{N: n}
	for i := range n * n {
		if choice>>i&1 == 1 {
			g.Edges = append(g.Edges, api.Edge{From: i / n, To: i % n})
		}
	}
	return g
}

// graphs returns all graphs of at most three nodes, some of four and five nodes, and a few shapes.
func graphs() []api.Graph {
	all := []api.Graph{}
	for n := range 4 {
		for choice := range uint(1) << (n * n) {
			all = append(all, build(n, choice))
		}
	}
	for i := range uint(400) {
		all = append(all, build(4, i*163&0xffff), build(5, i*i*2654435761>>3&0x1ffffff))
		all = append(all, build(5, i*40503*(i+7)&0x1ffffff&(i*2654435761>>2)))
	}
	return append(all,
		api.Graph{N: 6, Edges: edges(0, 3, 0, 4, 1, 2, 2, 5, 3, 1, 4, 2)},
		api.Graph{N: 7, Edges: edges(0, 1, 1, 2, 2, 0, 2, 3, 3, 4, 4, 3, 5, 6)},
		api.Graph{N: 7, Edges: edges(0, 5, 0, 6, 1, 4, 2, 4, 5, 2, 6, 1)},
	)
}

// hasEdge looks for an edge among all edges.
func hasEdge(g api.Graph, v, w int) bool { return slices.Contains(g.Edges, api.Edge{From: v, To: w}) }

// distances is the model of paths: distances[v][w] is the length of the shortest paths from v to w, or far.
func distances(g api.Graph) [][]int {
	d := make([][]int, g.N)
	for v := range d {
		d[v] = make([]int, g.N)
		for w := range d[v] {
			switch {
			case v == w:
			case hasEdge(g, v, w):
				d[v][w] = 1
			default:
				d[v][w] = far
			}
		}
	}
	for by := range d {
		for v := range d {
			for w := range d {
				d[v][w] = min(d[v][w], d[v][by]+d[by][w])
			}
		}
	}
	return d
}

// far is greater than every length of a path in the graphs of these tests.
const far = 1000

func sameGraph(a, b api.Graph) bool { return a.N == b.N && slices.Equal(a.Edges, b.Edges) }

func isZero(g api.Graph) bool { return g.N == 0 && len(g.Edges) == 0 }

// badGraph is a graph that is not valid, with the error that Check returns for it.
type badGraph struct {
	g    api.Graph
	want api.Errno
}

// notValid returns graphs that are not valid, by what is wrong with them.
func notValid() map[string]badGraph {
	many := manyEdges(api.MaxEdges + 1)
	bad := slices.Clone(many)
	bad[0].From = -1
	return map[string]badGraph{
		"N below 0":                       {api.Graph{N: -1}, api.ErrRange},
		"N the least int":                 {api.Graph{N: math.MinInt}, api.ErrRange},
		"N below 0 and many edges":        {api.Graph{N: -1, Edges: many}, api.ErrRange},
		"N too great":                     {api.Graph{N: 8193}, api.ErrTooLong},
		"N the greatest int":              {api.Graph{N: math.MaxInt}, api.ErrTooLong},
		"N too great and range":           {api.Graph{N: 8193, Edges: edges(0, -1)}, api.ErrTooLong},
		"too many edges":                  {api.Graph{N: 200, Edges: many}, api.ErrTooLong},
		"too many edges and range":        {api.Graph{N: 200, Edges: bad}, api.ErrTooLong},
		"too many edges that are equal":   {api.Graph{N: 1, Edges: make([]api.Edge, api.MaxEdges+1)}, api.ErrTooLong},
		"an edge without nodes":           {api.Graph{Edges: edges(0, 0)}, api.ErrRange},
		"From below 0":                    {api.Graph{N: 2, Edges: edges(-1, 0)}, api.ErrRange},
		"To below 0":                      {api.Graph{N: 2, Edges: edges(0, -1)}, api.ErrRange},
		"From too great":                  {api.Graph{N: 2, Edges: edges(2, 0)}, api.ErrRange},
		"To too great":                    {api.Graph{N: 2, Edges: edges(0, 2)}, api.ErrRange},
		"From the greatest int":           {api.Graph{N: 2, Edges: edges(0, 0, math.MaxInt, 0)}, api.ErrRange},
		"To the least int":                {api.Graph{N: 2, Edges: edges(0, 0, 0, math.MinInt)}, api.ErrRange},
		"From not in order":               {api.Graph{N: 2, Edges: edges(1, 0, 0, 1)}, api.ErrOrder},
		"To not in order":                 {api.Graph{N: 2, Edges: edges(0, 1, 0, 0)}, api.ErrOrder},
		"an edge twice":                   {api.Graph{N: 2, Edges: edges(0, 1, 0, 1)}, api.ErrOrder},
		"order first":                     {api.Graph{N: 2, Edges: edges(1, 0, 0, 1, 5, 0)}, api.ErrOrder},
		"range first":                     {api.Graph{N: 2, Edges: edges(1, 0, 1, 2, 0, 1)}, api.ErrRange},
		"range and order of one edge":     {api.Graph{N: 2, Edges: edges(1, 0, 0, -1)}, api.ErrRange},
		"From in order and To not":        {api.Graph{N: 3, Edges: edges(0, 2, 1, 0, 1, 2, 1, 1)}, api.ErrOrder},
		"only the last edge not in order": {api.Graph{N: 3, Edges: edges(0, 1, 1, 2, 2, 1, 2, 0)}, api.ErrOrder},
	}
}

// manyEdges returns the first edges of the graph of 200 nodes that has all edges.
func manyEdges(count int) []api.Edge {
	l := []api.Edge{}
	for i := range count {
		l = append(l, api.Edge{From: i / 200, To: i % 200})
	}
	return l
}

func TestCheck(t *testing.T) { // P4.1
	for name, c := range notValid() {
		if e := Check(c.g); e != c.want {
			t.Errorf("%s: %d, want %d", name, int(e), int(c.want))
		}
	}
	good := append(graphs(), api.Graph{}, api.Graph{Edges: []api.Edge{}}, api.Graph{N: 8192}, api.Graph{N: 8192, Edges: edges(0, 8191, 8191, 0, 8191, 8191)},
		api.Graph{N: 200, Edges: manyEdges(api.MaxEdges)})
	for _, g := range good {
		if e := Check(g); e != api.OK {
			t.Errorf("%d nodes, %d edges: %d", g.N, len(g.Edges), int(e))
		}
	}
}

func TestGraphsThatAreNotValid(t *testing.T) { // P4.1
	for name, c := range notValid() {
		for _, v := range append([]int{0, 1}, farNumbers...) {
			if len(Succ(c.g, v)) != 0 || len(Pred(c.g, v)) != 0 || len(Reach(c.g, v)) != 0 || len(Postorder(c.g, v)) != 0 {
				t.Errorf("%s: a result for %d", name, v)
			}
			for _, w := range []int{v, 0, 1} {
				if path, ok := Path(c.g, v, w); len(path) != 0 || ok {
					t.Errorf("%s: a path from %d to %d", name, v, w)
				}
			}
		}
		if r := Reverse(c.g); !isZero(r) {
			t.Errorf("%s: reversed", name)
		}
	}
}

func TestMake(t *testing.T) { // P4.2
	g, e := Make(3, edges(1, 2, 0, 1, 1, 2)...)
	if e != api.OK || !sameGraph(g, api.Graph{N: 3, Edges: edges(0, 1, 1, 2)}) {
		t.Errorf("Make of the example: %v", g)
	}
	for _, want := range graphs() {
		given := slices.Concat(want.Edges, want.Edges)
		slices.Reverse(given)
		for i := range given {
			j := i * 7 % len(given)
			given[i], given[j] = given[j], given[i]
		}
		before := slices.Clone(given)
		if g, e := Make(want.N, given...); e != api.OK || !sameGraph(g, want) {
			t.Errorf("Make %d %v: %v %d", want.N, before, g, int(e))
		}
		if !slices.Equal(given, before) {
			t.Error("Make changed its edges")
		}
	}
	for _, n := range []int{0, 1, 8192} {
		if g, e := Make(n); e != api.OK || !sameGraph(g, api.Graph{N: n}) {
			t.Errorf("Make %d: %d", n, int(e))
		}
	}
}

func TestMakeErrors(t *testing.T) { // P4.2
	many := manyEdges(api.MaxEdges + 1)
	bad := append(slices.Clone(many), api.Edge{From: 0, To: 200})
	for name, c := range map[string]struct {
		n     int
		edges []api.Edge
		want  api.Errno
	}{
		"n below 0":                  {-1, nil, api.ErrRange},
		"n the least int":            {math.MinInt, nil, api.ErrRange},
		"n below 0 and many edges":   {-1, many, api.ErrRange},
		"n too great":                {8193, nil, api.ErrTooLong},
		"n the greatest int":         {math.MaxInt, edges(0, 1), api.ErrTooLong},
		"n too great and range":      {8193, edges(-1, 0), api.ErrTooLong},
		"an edge without nodes":      {0, edges(0, 0), api.ErrRange},
		"too many edges":             {200, many, api.ErrTooLong},
		"too many edges and range":   {200, bad, api.ErrRange},
		"too many edges, many twice": {200, slices.Concat(many, many), api.ErrTooLong},
	} {
		if g, e := Make(c.n, c.edges...); e != c.want || !isZero(g) {
			t.Errorf("%s: %d, want %d", name, int(e), int(c.want))
		}
	}
	for _, x := range append([]int{3}, farNumbers...) {
		for _, edge := range edges(x, 0, 0, x, x, x) {
			if g, e := Make(3, api.Edge{From: 2, To: 2}, edge, api.Edge{From: 0, To: 1}); e != api.ErrRange || !isZero(g) {
				t.Errorf("Make with %v: %d", edge, int(e))
			}
		}
	}
}

func TestMakeCountsDifferentEdges(t *testing.T) { // P4.2
	many := manyEdges(api.MaxEdges)
	if g, e := Make(200, slices.Concat(many, many, many[:1])...); e != api.OK || !slices.Equal(g.Edges, many) {
		t.Errorf("error %d", int(e))
	}
}

func TestSuccPred(t *testing.T) { // P4.3
	g := api.Graph{N: 3, Edges: edges(0, 1, 1, 2)}
	if !slices.Equal(Succ(g, 1), []int{2}) || !slices.Equal(Pred(g, 1), []int{0}) {
		t.Error("the example")
	}
	for _, g := range graphs() {
		for v := range g.N {
			var succ, pred []int
			for w := range g.N {
				if hasEdge(g, v, w) {
					succ = append(succ, w)
				}
				if hasEdge(g, w, v) {
					pred = append(pred, w)
				}
			}
			if got := Succ(g, v); !slices.Equal(got, succ) {
				t.Errorf("Succ %v %d: %v", g, v, got)
			}
			if got := Pred(g, v); !slices.Equal(got, pred) {
				t.Errorf("Pred %v %d: %v", g, v, got)
			}
		}
		for _, v := range append([]int{g.N}, farNumbers...) {
			if len(Succ(g, v)) != 0 || len(Pred(g, v)) != 0 {
				t.Errorf("Succ, Pred %v %d", g, v)
			}
		}
	}
}

func TestReverse(t *testing.T) { // P4.3, P4.9
	for _, g := range append(graphs(), api.Graph{N: 200, Edges: manyEdges(api.MaxEdges)}) {
		want := api.Graph{N: g.N}
		for v := range g.N {
			for _, edge := range g.Edges {
				if edge.To == v {
					want.Edges = append(want.Edges, api.Edge{From: v, To: edge.From})
				}
			}
		}
		r := Reverse(g)
		if !sameGraph(r, want) {
			t.Errorf("Reverse %v: %v", g, r)
		}
		if !sameGraph(Reverse(r), g) {
			t.Errorf("Reverse %v twice: %v", g, Reverse(r))
		}
	}
}

func TestReachBothWays(t *testing.T) { // P4.9
	for _, g := range graphs() {
		r := Reverse(g)
		for v := range g.N {
			for w := range g.N {
				if slices.Contains(Reach(g, v), w) != slices.Contains(Reach(r, w), v) {
					t.Errorf("%v: from %d to %d in one direction only", g, v, w)
				}
			}
		}
	}
}

func TestReach(t *testing.T) { // P4.4
	g := api.Graph{N: 3, Edges: edges(0, 1, 1, 2)}
	if got := Reach(g, 1); !slices.Equal(got, []int{1, 2}) {
		t.Errorf("the example: %v", got)
	}
	for _, g := range graphs() {
		d := distances(g)
		for choice := range 1 << g.N {
			var from, want []int
			for v := range g.N {
				if choice>>v&1 == 1 {
					from = append([]int{v, v}, from...)
				}
			}
			for w := range g.N {
				if slices.ContainsFunc(from, func(v int) bool { return d[v][w] < far }) {
					want = append(want, w)
				}
			}
			if got := Reach(g, from...); !slices.Equal(got, want) {
				t.Errorf("Reach %v %v: %v", g, from, got)
			}
			ignored := slices.Concat(farNumbers, from, []int{g.N})
			if got := Reach(g, ignored...); !slices.Equal(got, want) {
				t.Errorf("Reach %v %v: %v", g, ignored, got)
			}
		}
	}
}

func TestReachIsTheLeastClosure(t *testing.T) { // P4.7
	for _, g := range graphs() {
		for choice := range 1 << g.N {
			from := chosen(g.N, choice)
			reached := Reach(g, from...)
			if !closed(g, from, reached) {
				t.Errorf("Reach %v %v: %v is not closed", g, from, reached)
			}
			for other := range 1 << g.N {
				set := chosen(g.N, other)
				if closed(g, from, set) && !within(reached, set) {
					t.Errorf("Reach %v %v: %v is not within %v", g, from, reached, set)
				}
			}
		}
	}
}

// chosen returns the numbers below n whose bits are set.
func chosen(n, choice int) []int {
	l := []int{}
	for v := range n {
		if choice>>v&1 == 1 {
			l = append(l, v)
		}
	}
	return l
}

func within(a, b []int) bool {
	return !slices.ContainsFunc(a, func(x int) bool { return !slices.Contains(b, x) })
}

// closed reports whether a set contains the given nodes and all ends of edges that begin in it.
func closed(g api.Graph, from, set []int) bool {
	return within(from, set) && !slices.ContainsFunc(g.Edges, func(e api.Edge) bool {
		return slices.Contains(set, e.From) && !slices.Contains(set, e.To)
	})
}

// search is the model of Postorder: it appends the nodes that the search lists when it comes to v.
func search(g api.Graph, v int, visited map[int]bool, list []int) []int {
	if visited[v] {
		return list
	}
	visited[v] = true
	for w := range g.N {
		if hasEdge(g, v, w) {
			list = search(g, w, visited, list)
		}
	}
	return append(list, v)
}

func TestPostorder(t *testing.T) { // P4.5
	g := api.Graph{N: 3, Edges: edges(0, 1, 0, 2, 1, 2)}
	if got := Postorder(g, 0); !slices.Equal(got, []int{2, 1, 0}) {
		t.Errorf("the example: %v", got)
	}
	for _, g := range graphs() {
		for root := range g.N {
			if got := Postorder(g, root); !slices.Equal(got, search(g, root, map[int]bool{}, nil)) {
				t.Errorf("Postorder %v %d: %v", g, root, got)
			}
		}
		for _, root := range append([]int{g.N}, farNumbers...) {
			if got := Postorder(g, root); len(got) != 0 {
				t.Errorf("Postorder %v %d: %v", g, root, got)
			}
		}
	}
}

func TestPostorderEndsWithTheRoot(t *testing.T) { // P4.10
	for _, g := range graphs() {
		d := distances(g)
		for root := range g.N {
			list := Postorder(g, root)
			sorted := slices.Clone(list)
			slices.Sort(sorted)
			if !slices.Equal(sorted, Reach(g, root)) || list[len(list)-1] != root {
				t.Errorf("Postorder %v %d: %v", g, root, list)
			}
			for _, edge := range g.Edges {
				inCycle := d[edge.To][edge.From] < far
				from, to := slices.Index(list, edge.From), slices.Index(list, edge.To)
				if from >= 0 && !inCycle && to >= from {
					t.Errorf("Postorder %v %d: %v against the edge %v", g, root, list, edge)
				}
			}
		}
	}
}

// paths returns all paths with this many edges, the lexicographically least first.
func paths(g api.Graph, from, length int) [][]int {
	all := [][]int{{from}}
	for range length {
		var longer [][]int
		for _, path := range all {
			for w := range g.N {
				if hasEdge(g, path[len(path)-1], w) {
					longer = append(longer, append(slices.Clone(path), w))
				}
			}
		}
		all = longer
	}
	return all
}

func TestPath(t *testing.T) { // P4.6, P4.8
	g := api.Graph{N: 4, Edges: edges(0, 1, 0, 2, 1, 3, 2, 3)}
	if path, ok := Path(g, 0, 3); !ok || !slices.Equal(path, []int{0, 1, 3}) {
		t.Errorf("the example: %v", path)
	}
	if path, ok := Path(g, 3, 3); !ok || !slices.Equal(path, []int{3}) {
		t.Errorf("the example, to itself: %v", path)
	}
	for _, g := range graphs() {
		d := distances(g)
		for from := range g.N {
			for to := range g.N {
				path, ok := Path(g, from, to)
				if d[from][to] == far {
					if len(path) != 0 || ok {
						t.Errorf("Path %v %d %d: %v", g, from, to, path)
					}
					continue
				}
				want := slices.DeleteFunc(paths(g, from, d[from][to]), func(p []int) bool { return p[len(p)-1] != to })
				if !ok || !slices.Equal(path, want[0]) {
					t.Errorf("Path %v %d %d: %v, want %v", g, from, to, path, want[0])
				}
			}
		}
		for _, v := range append([]int{g.N}, farNumbers...) {
			for _, ends := range edges(v, 0, 0, v, v, v) {
				if path, ok := Path(g, ends.From, ends.To); len(path) != 0 || ok {
					t.Errorf("Path %v %v: %v", g, ends, path)
				}
			}
		}
	}
}

func TestGraphsAtTheLimits(t *testing.T) { // P4.2 to P4.6
	const n = api.MaxNodes
	var chain []api.Edge
	for v := n - 1; v > 0; v-- {
		chain = append(chain, api.Edge{From: v, To: v - 1}, api.Edge{From: v, To: v}, api.Edge{From: v / 2, To: v})
	}
	g, e := Make(n, chain...)
	if e != api.OK || Check(g) != api.OK {
		t.Fatalf("Make: %d", int(e))
	}
	if len(Reach(g, n-1)) != n || len(Postorder(g, n-1)) != n || !sameGraph(Reverse(Reverse(g)), g) {
		t.Error("Reach, Postorder, Reverse")
	}
	if path, ok := Path(g, 0, n-1); !ok || len(path) != 14 {
		t.Errorf("Path: %v", path)
	}
	line := slices.DeleteFunc(chain, func(e api.Edge) bool { return e.From <= e.To })
	g, _ = Make(n, line...)
	order := Postorder(g, n-1)
	path, ok := Path(g, n-1, 0)
	slices.Reverse(path)
	if !ok || len(order) != n || !slices.IsSorted(order) || !slices.Equal(path, order) {
		t.Error("a line of all nodes")
	}
	if !slices.Equal(Succ(g, n-1), []int{n - 2}) || !slices.Equal(Pred(g, n-2), []int{n - 1}) || len(Succ(g, n)) != 0 {
		t.Error("Succ, Pred")
	}
}

// spoil overwrites the whole memory of a list.
func spoil[T any](l []T, with T) {
	l = l[:cap(l)]
	for i := range l {
		l[i] = with
	}
}

func TestArgumentsStayAndResultsAreNew(t *testing.T) { // R5
	for _, sample := range graphs() {
		whole := append(slices.Clone(sample.Edges), edges(77, 78, 79, 80)...)
		before := slices.Clone(whole)
		g := api.Graph{N: sample.N, Edges: whole[:len(sample.Edges)]}
		from := []int{1, 0, 9, 1}
		made, _ := Make(g.N, g.Edges...)
		spoil(made.Edges, api.Edge{From: -9})
		spoil(Reverse(g).Edges, api.Edge{From: -9})
		spoil(Succ(g, 0), -9)
		spoil(Pred(g, 0), -9)
		spoil(Reach(g, from[:3]...), -9)
		spoil(Postorder(g, 0), -9)
		path, _ := Path(g, 0, 1)
		spoil(path, -9)
		Check(g)
		if !slices.Equal(whole, before) || !slices.Equal(from, []int{1, 0, 9, 1}) {
			t.Fatalf("%v: an argument was changed, or shares memory with a result", sample)
		}
	}
}
