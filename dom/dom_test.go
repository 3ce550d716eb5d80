package dom

import (
	"math"
	"slices"
	"testing"

	"dataflow/api"
	"dataflow/graph"
)

// farNumbers are numbers that are not nodes of a graph of fewer than 100 nodes.
var farNumbers = []int{math.MinInt, math.MinInt + 1, -8193, -1, 100, 8191, 8192, 8193, 1 << 32, math.MaxInt}

// edges returns the edges with these ends, two numbers each.
func edges(ends ...int) []api.Edge {
	l := []api.Edge{}
	for i := 0; i+1 < len(ends); i += 2 {
		l = append(l, api.Edge{From: ends[i], To: ends[i+1]})
	}
	return l
}

// build returns the graph with n nodes whose edge from v to w is there if bit v*n+w of choice is set.
func build(n int, choice uint) api.Graph {
	g := api.Graph{N: n}
	for i := range n * n {
		if choice>>i&1 == 1 {
			g.Edges = append(g.Edges, api.Edge{From: i / n, To: i % n})
		}
	}
	return g
}

// mixed returns some graph with n nodes and about this many edges, another one for each seed.
func mixed(n, count int, seed uint) api.Graph {
	var list []api.Edge
	next := func() int {
		seed = seed*6364136223846793005 + 1442695040888963407
		return int(seed >> 33 % uint(n))
	}
	for range count {
		list = append(list, api.Edge{From: next(), To: next()})
	}
	g, _ := graph.Make(n, list...)
	return g
}

// graphs returns all graphs of one to three nodes, some of four to seven nodes, and a few shapes.
func graphs() []api.Graph {
	all := []api.Graph{}
	for n := 1; n < 4; n++ {
		for choice := range uint(1) << (n * n) {
			all = append(all, build(n, choice))
		}
	}
	for i := range uint(150) {
		all = append(all, build(4, i*433&0xffff), mixed(5, 6+int(i%6), i), mixed(6, 7+int(i%8), i), mixed(7, 8+int(i%8), i))
	}
	return append(all,
		api.Graph{N: 4, Edges: edges(0, 1, 0, 2, 1, 3, 2, 3)},
		api.Graph{N: 4, Edges: edges(0, 1, 1, 2, 2, 1, 3, 2)},
		api.Graph{N: 3, Edges: edges(0, 1, 0, 2, 1, 2, 2, 1)},
		// Two loops with one head, and one within another one.
		api.Graph{N: 6, Edges: edges(0, 1, 1, 2, 1, 3, 2, 1, 3, 1, 3, 4, 4, 3, 4, 5)},
		// A node that is joined to the root only by the ends of long ways.
		api.Graph{N: 7, Edges: edges(0, 1, 0, 4, 1, 2, 2, 3, 3, 6, 4, 5, 5, 3, 5, 6)},
	)
}

// simplePaths returns all paths that begin with the given one and have no node twice.
func simplePaths(g api.Graph, path []int) [][]int {
	all := [][]int{path}
	for _, edge := range g.Edges {
		if edge.From == path[len(path)-1] && !slices.Contains(path, edge.To) {
			all = append(all, simplePaths(g, append(slices.Clone(path), edge.To))...)
		}
	}
	return all
}

// model has the dominators of each node by the definition of the chapter: on all paths from the root. A path that has a node twice has all nodes of a simple one.
type model struct {
	g     api.Graph
	root  int
	count []int   // the number of simple paths to each node
	with  [][]int // with[a][b] is the number of those to b that contain a
}

func newModel(g api.Graph, root int) model {
	m := model{g: g, root: root, count: make([]int, g.N)}
	for range g.N {
		m.with = append(m.with, make([]int, g.N))
	}
	for _, path := range simplePaths(g, []int{root}) {
		b := path[len(path)-1]
		m.count[b]++
		for _, a := range path {
			m.with[a][b]++
		}
	}
	return m
}

func (m model) reachable(v int) bool { return m.count[v] > 0 }

func (m model) dominates(a, b int) bool { return m.reachable(b) && m.with[a][b] == m.count[b] }

// strict returns the strict dominators of v, ascending.
func (m model) strict(v int) []int {
	return m.nodes(func(a int) bool { return a != v && m.dominates(a, v) })
}

// idom returns the strict dominator of v that all its other ones dominate, or -1.
func (m model) idom(v int) int {
	for _, a := range m.strict(v) {
		if !slices.ContainsFunc(m.strict(v), func(b int) bool { return !m.dominates(b, a) }) {
			return a
		}
	}
	return -1
}

func (m model) frontier(n int) []int {
	return m.nodes(func(y int) bool {
		met := slices.ContainsFunc(m.g.Edges, func(e api.Edge) bool { return e.To == y && m.dominates(n, e.From) })
		return met && (n == y || !m.dominates(n, y))
	})
}

func (m model) isBack(e api.Edge) bool { return m.dominates(e.To, e.From) }

func (m model) loops() []api.Loop {
	var loops []api.Loop
	for head := range m.g.N {
		without := slices.DeleteFunc(slices.Clone(m.g.Edges), func(e api.Edge) bool { return e.From == head || e.To == head })
		body := m.nodes(func(v int) bool {
			return m.reachable(v) && slices.ContainsFunc(m.g.Edges, func(e api.Edge) bool {
				if e.To != head || !m.isBack(e) {
					return false
				}
				return v == e.From || v == head || slices.Contains(graph.Reach(api.Graph{N: m.g.N, Edges: without}, v), e.From)
			})
		})
		if len(body) > 0 {
			loops = append(loops, api.Loop{Head: head, Nodes: body})
		}
	}
	return loops
}

// reducible reports whether each simple cycle of reachable nodes has a back edge; every other cycle consists of simple ones.
func (m model) reducible() bool {
	for v := range m.g.N {
		if !m.reachable(v) {
			continue
		}
		for _, path := range simplePaths(m.g, []int{v}) {
			last := path[len(path)-1]
			if !slices.Contains(m.g.Edges, api.Edge{From: last, To: v}) {
				continue
			}
			back := false
			for i, w := range path {
				back = back || m.isBack(api.Edge{From: w, To: path[(i+1)%len(path)]})
			}
			if !back {
				return false
			}
		}
	}
	return true
}

// nodes returns the nodes with a property, ascending.
func (m model) nodes(has func(v int) bool) []int {
	l := []int{}
	for v := range m.g.N {
		if has(v) {
			l = append(l, v)
		}
	}
	return l
}

// forAll calls a test with the model of each graph and each of its roots.
func forAll(test func(g api.Graph, root int, m model)) {
	for _, g := range graphs() {
		for root := range g.N {
			test(g, root, newModel(g, root))
		}
	}
}

var diamond = api.Graph{N: 4, Edges: edges(0, 1, 0, 2, 1, 3, 2, 3)}

func sameLoops(a, b []api.Loop) bool {
	return slices.EqualFunc(a, b, func(x, y api.Loop) bool { return x.Head == y.Head && slices.Equal(x.Nodes, y.Nodes) })
}

func TestIdom(t *testing.T) { // P6.1
	if l, e := Idom(diamond, 0); e != api.OK || !slices.Equal(l, []int{-1, 0, 0, 0}) {
		t.Errorf("the example: %v", l)
	}
	forAll(func(g api.Graph, root int, m model) {
		var want []int
		for v := range g.N {
			want = append(want, m.idom(v))
		}
		if l, e := Idom(g, root); e != api.OK || !slices.Equal(l, want) {
			t.Errorf("Idom %v %d: %v, want %v", g, root, l, want)
		}
	})
}

func TestDominatesStrict(t *testing.T) { // P6.2
	if !Dominates(diamond, 0, 0, 3) || Dominates(diamond, 0, 1, 3) || !slices.Equal(Strict(diamond, 0, 3), []int{0}) {
		t.Error("the example")
	}
	forAll(func(g api.Graph, root int, m model) {
		for b := range g.N {
			for a := range g.N {
				if Dominates(g, root, a, b) != m.dominates(a, b) {
					t.Errorf("Dominates %v %d %d %d: %t", g, root, a, b, !m.dominates(a, b))
				}
			}
			if l := Strict(g, root, b); !slices.Equal(l, m.strict(b)) {
				t.Errorf("Strict %v %d %d: %v", g, root, b, l)
			}
		}
		for _, x := range []int{-1, g.N, math.MinInt, math.MaxInt} {
			if Dominates(g, root, x, root) || Dominates(g, root, root, x) || Dominates(g, root, x, x) || len(Strict(g, root, x)) != 0 {
				t.Errorf("%v: %d is not a node", g, x)
			}
		}
	})
}

func TestNumbersThatAreNotNodes(t *testing.T) { // P6.2
	for _, x := range farNumbers {
		for _, v := range []int{0, 3, x} {
			if Dominates(diamond, 0, x, v) || Dominates(diamond, 0, v, x) || Dominates(diamond, x, v, 0) || len(Strict(diamond, 0, x)) != 0 || len(Strict(diamond, x, v)) != 0 {
				t.Errorf("%d and %d", x, v)
			}
		}
	}
}

func TestFrontier(t *testing.T) { // P6.3
	l, e := Frontier(diamond, 0)
	if e != api.OK || !slices.Equal(l[1], []int{3}) || len(l[0]) != 0 {
		t.Errorf("the example: %v", l)
	}
	forAll(func(g api.Graph, root int, m model) {
		l, e := Frontier(g, root)
		if e != api.OK || len(l) != g.N {
			t.Fatalf("Frontier %v %d: %v", g, root, l)
		}
		for n := range l {
			if !slices.Equal(l[n], m.frontier(n)) {
				t.Errorf("Frontier %v %d of %d: %v, want %v", g, root, n, l[n], m.frontier(n))
			}
		}
	})
}

func TestLoops(t *testing.T) { // P6.4
	if l, e := Loops(api.Graph{N: 3, Edges: edges(0, 1, 1, 2, 2, 1)}, 0); e != api.OK || !sameLoops(l, []api.Loop{{Head: 1, Nodes: []int{1, 2}}}) {
		t.Errorf("the example: %v", l)
	}
	if l, _ := Loops(diamond, 0); len(l) != 0 {
		t.Errorf("no loop: %v", l)
	}
	// The loop of 1 does not go on beyond its head, and that of the root is one of an edge to itself.
	g := api.Graph{N: 4, Edges: edges(0, 0, 0, 1, 1, 2, 1, 3, 2, 1, 3, 1)}
	if l, _ := Loops(g, 0); !sameLoops(l, []api.Loop{{Head: 0, Nodes: []int{0}}, {Head: 1, Nodes: []int{1, 2, 3}}}) {
		t.Errorf("two loops: %v", l)
	}
	forAll(func(g api.Graph, root int, m model) {
		if l, e := Loops(g, root); e != api.OK || !sameLoops(l, m.loops()) {
			t.Errorf("Loops %v %d: %v, want %v", g, root, l, m.loops())
		}
	})
}

func TestReducible(t *testing.T) { // P6.5
	twoWays := api.Graph{N: 3, Edges: edges(0, 1, 0, 2, 1, 2, 2, 1)}
	if Reducible(twoWays, 0) || !Reducible(twoWays, 1) {
		t.Error("the example")
	}
	// The cycle is not reachable from 3.
	if !Reducible(api.Graph{N: 4, Edges: twoWays.Edges}, 3) || !Reducible(api.Graph{N: 1, Edges: edges(0, 0)}, 0) {
		t.Error("a cycle that does not count, or a loop")
	}
	forAll(func(g api.Graph, root int, m model) {
		if Reducible(g, root) != m.reducible() {
			t.Errorf("Reducible %v %d: %t", g, root, !m.reducible())
		}
	})
}

func TestStrictDominatorsFollowTheTree(t *testing.T) { // P6.6
	forAll(func(g api.Graph, root int, m model) {
		idom, _ := Idom(g, root)
		for v := range g.N {
			var want []int
			if d := idom[v]; d >= 0 {
				want = append(Strict(g, root, d), d)
				slices.Sort(want)
			}
			if l := Strict(g, root, v); !slices.Equal(l, want) {
				t.Errorf("Strict %v %d %d: %v, want %v", g, root, v, l, want)
			}
		}
	})
}

// withoutEdgesTo returns the nodes that are reachable from the root when the edges to a are removed.
func withoutEdgesTo(g api.Graph, root, a int) []bool {
	kept := slices.DeleteFunc(slices.Clone(g.Edges), func(e api.Edge) bool { return e.To == a })
	reached := make([]bool, g.N)
	for _, v := range graph.Reach(api.Graph{N: g.N, Edges: kept}, root) {
		reached[v] = true
	}
	return reached
}

func TestDominatorsCutTheGraph(t *testing.T) { // P6.7
	all := graphs()
	for i := range uint(30) {
		all = append(all, mixed(40, 50+4*int(i), i), mixed(24, 30+2*int(i), i+77))
	}
	for _, g := range all {
		root := g.N / 2
		reached := graph.Reach(g, root)
		for a := range g.N {
			left := withoutEdgesTo(g, root, a)
			for b := range g.N {
				if a == root || a == b {
					continue
				}
				if cut := slices.Contains(reached, b) && !left[b]; Dominates(g, root, a, b) != cut {
					t.Errorf("Dominates %v %d %d %d: %t", g, root, a, b, !cut)
				}
			}
		}
	}
}

func TestHeadsDominateTheirLoops(t *testing.T) { // P6.8
	all := graphs()
	for i := range uint(60) {
		all = append(all, mixed(30, 34+int(i), i))
	}
	for _, g := range all {
		root := g.N / 2
		loops, _ := Loops(g, root)
		for _, loop := range loops {
			for _, v := range loop.Nodes {
				if !Dominates(g, root, loop.Head, v) {
					t.Errorf("%v %d: %d is in the loop of %d", g, root, v, loop.Head)
				}
			}
		}
	}
}

// expectErrors checks the results of all functions for a graph and a root of which one is not valid.
func expectErrors(t *testing.T, name string, g api.Graph, root int, want api.Errno) {
	t.Helper()
	if l, e := Idom(g, root); e != want || len(l) != 0 {
		t.Errorf("%s, root %d: Idom: %v %d", name, root, l, int(e))
	}
	if l, e := Frontier(g, root); e != want || len(l) != 0 {
		t.Errorf("%s, root %d: Frontier: %v %d", name, root, l, int(e))
	}
	if l, e := Loops(g, root); e != want || len(l) != 0 {
		t.Errorf("%s, root %d: Loops: %v %d", name, root, l, int(e))
	}
	if Reducible(g, root) || len(Strict(g, root, 1)) != 0 || Dominates(g, root, 0, 0) || Dominates(g, root, root, root) || Dominates(g, root, 0, 1) {
		t.Errorf("%s, root %d: a result", name, root)
	}
}

func TestErrors(t *testing.T) { // P6.1 to P6.5
	for name, g := range map[string]api.Graph{
		"N below 0":      {N: -1},
		"N too great":    {N: 8193, Edges: edges(0, 1)},
		"N far too big":  {N: math.MaxInt, Edges: edges(1, 0, 0, 1)},
		"too many edges": {N: 1, Edges: make([]api.Edge, api.MaxEdges+1)},
		"no such node":   {N: 2, Edges: edges(0, 1, 1, 2)},
		"an end below 0": {N: 2, Edges: edges(-1, 0, 0, 1)},
		"not in order":   {N: 2, Edges: edges(0, 1, 0, 0)},
		"an edge twice":  {N: 2, Edges: edges(0, 1, 0, 1)},
	} {
		want := graph.Check(g)
		if want == api.OK {
			t.Fatalf("%s: valid", name)
		}
		for _, root := range append([]int{0, 1}, farNumbers...) {
			expectErrors(t, name, g, root, want)
		}
	}
	for name, g := range map[string]api.Graph{"no nodes": {}, "two nodes": {N: 2, Edges: edges(0, 1)}} {
		for _, root := range append([]int{g.N}, farNumbers...) {
			expectErrors(t, name, g, root, api.ErrRange)
		}
	}
}

// line returns the graph of all nodes with an edge from each node to the next one, and these more.
func line(more ...api.Edge) api.Graph {
	for v := range api.MaxNodes - 1 {
		more = append(more, api.Edge{From: v, To: v + 1})
	}
	g, _ := graph.Make(api.MaxNodes, more...)
	return g
}

func TestGraphsAtTheLimits(t *testing.T) { // P6.1 to P6.5
	const n = api.MaxNodes
	ring := line(api.Edge{From: n - 1, To: 0})
	idom, _ := Idom(ring, 0)
	for v, d := range idom {
		if d != v-1 {
			t.Fatalf("the ring: the immediate dominator of %d is %d", v, d)
		}
	}
	loops, _ := Loops(ring, 0)
	if len(loops) != 1 || len(loops[0].Nodes) != n || !Reducible(ring, 0) || len(Strict(ring, 1, 0)) != n-1 || !Dominates(ring, 0, 1, n-1) {
		t.Error("the ring")
	}
	if frontier, _ := Frontier(ring, 5); !slices.Equal(frontier[0], []int{5}) || !slices.Equal(frontier[5], []int{5}) {
		t.Error("the frontier of the ring")
	}
	// Each node is entered from the one before it and from one far behind it.
	var jumps []api.Edge
	for v := range n / 2 {
		jumps = append(jumps, api.Edge{From: v, To: n - 1 - v})
	}
	for v := n / 2; v < n-1; v++ {
		jumps = append(jumps, api.Edge{From: v + 1, To: v}, api.Edge{From: 0, To: v})
	}
	crossed := line(jumps...)
	idom, e := Idom(crossed, 0)
	if e != api.OK || slices.ContainsFunc(idom[n/2:], func(d int) bool { return d != 0 }) || idom[n/2-1] != n/2-2 {
		t.Error("the crossed line")
	}
	if Reducible(crossed, 0) || Dominates(crossed, 0, n-2, n-1) || !Dominates(crossed, 0, n/2-2, n/2-1) {
		t.Error("the cycles of the crossed line")
	}
}

func TestManyNestedLoops(t *testing.T) { // P6.3, P6.4
	const depth = 700
	var back []api.Edge
	for v := range depth {
		back = append(back, api.Edge{From: depth - 1, To: v})
	}
	g := line(back...)
	frontier, _ := Frontier(g, 0)
	loops, _ := Loops(g, 0)
	if len(loops) != depth {
		t.Fatalf("%d loops", len(loops))
	}
	for v := range depth {
		if loops[v].Head != v || len(loops[v].Nodes) != depth-v || len(frontier[v]) != v+1 {
			t.Errorf("the loop of %d", v)
		}
	}
}

// spoil overwrites the whole memory of a list.
func spoil[T any](l []T, with T) {
	l = l[:cap(l)]
	for i := range l {
		l[i] = with
	}
}

func TestArgumentsStayAndResultsAreNew(t *testing.T) { // R5
	for _, sample := range graphs() {
		whole := append(slices.Clone(sample.Edges), edges(77, 78, 79, 80)...)
		before := slices.Clone(whole)
		g := api.Graph{N: sample.N, Edges: whole[:len(sample.Edges)]}
		m := newModel(g, 0)
		idom, _ := Idom(g, 0)
		spoil(idom, -9)
		spoil(Strict(g, 0, g.N-1), -9)
		frontier, _ := Frontier(g, 0)
		for n := range frontier {
			if !slices.Equal(frontier[n], m.frontier(n)) {
				t.Errorf("%v: a frontier shares memory with another one", sample)
			}
			spoil(frontier[n], -9)
		}
		loops, _ := Loops(g, 0)
		for i, want := range m.loops() {
			if !slices.Equal(loops[i].Nodes, want.Nodes) {
				t.Errorf("%v: a loop shares memory with another one", sample)
			}
			spoil(loops[i].Nodes, -9)
		}
		Dominates(g, 0, 0, 0)
		Reducible(g, 0)
		if !slices.Equal(whole, before) {
			t.Fatalf("%v: an argument was changed, or shares memory with a result", sample)
		}
	}
}
