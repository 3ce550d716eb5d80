package scc

import (
	"math"
	"slices"
	"testing"

	"dataflow/api"
	"dataflow/graph"
)

// farNumbers are numbers that are not nodes of a graph of fewer than 100 nodes.
var farNumbers = []int{math.MinInt, math.MinInt + 1, -8193, -1, 100, 8191, 8192, 8193, 1 << 32, math.MaxInt}

// edges returns the edges with these ends, two numbers each.
func edges(ends ...int) []api.Edge {
	l := []api.Edge{}
	for i := 0; i+1 < len(ends); i += 2 {
		l = append(l, api.Edge{From: ends[i], To: ends[i+1]})
	}
	return l
}

// build returns the graph with n nodes whose edge from v to w is there if bit v*n+w of choice is set.
func build(n int, choice uint) api.Graph {
	g := api.Graph{N: n}
	for i := range n * n {
		if choice>>i&1 == 1 {
			g.Edges = append(g.Edges, api.Edge{From: i / n, To: i % n})
		}
	}
	return g
}

// mixed returns some graph with n nodes and about this many edges, another one for each seed.
func mixed(n, count int, seed uint) api.Graph {
	var list []api.Edge
	next := func() int {
		seed = seed*6364136223846793005 + 1442695040888963407
		return int(seed >> 33 % uint(n))
	}
	for range count {
		list = append(list, api.Edge{From: next(), To: next()})
	}
	g, _ := graph.Make(n, list...)
	return g
}

// graphs returns all graphs of at most three nodes, some of four to nine nodes, and a few shapes.
func graphs() []api.Graph {
	all := []api.Graph{}
	for n := range 4 {
		for choice := range uint(1) << (n * n) {
			all = append(all, build(n, choice))
		}
	}
	for i := range uint(300) {
		all = append(all, build(4, i*217&0xffff), mixed(5, 4+int(i%6), i), mixed(6, 4+int(i%7), i), mixed(9, 5+int(i%9), i))
	}
	return append(all,
		api.Graph{N: 4, Edges: edges(2, 0, 2, 3, 3, 1)},
		api.Graph{N: 7, Edges: edges(0, 1, 1, 2, 2, 0, 2, 3, 3, 4, 4, 3, 5, 6)},
		api.Graph{N: 7, Edges: edges(0, 5, 0, 6, 1, 4, 2, 4, 5, 2, 6, 1)},
		api.Graph{N: 6, Edges: edges(0, 4, 1, 0, 2, 5, 3, 2, 4, 1, 5, 3)},
	)
}

// reaches is the model of paths: reaches[v][w] says that a path of one edge or more leads from v to w.
func reaches(g api.Graph) [][]bool {
	r := make([][]bool, g.N)
	for v := range r {
		r[v] = make([]bool, g.N)
	}
	for _, edge := range g.Edges {
		r[edge.From][edge.To] = true
	}
	for by := range r {
		for v := range r {
			for w := range r {
				r[v][w] = r[v][w] || r[v][by] && r[by][w]
			}
		}
	}
	return r
}

// model returns the components by the definitions of the chapter: at each step it looks for the least node whose component may come next.
func model(g api.Graph) [][]int {
	r := reaches(g)
	listed := make([]bool, g.N)
	var list [][]int
	for count := 0; count < g.N; {
		for v := range g.N {
			component := mutual(r, v)
			if !listed[v] && mayComeNext(g, component, listed) {
				for _, w := range component {
					listed[w] = true
					count++
				}
				list = append(list, component)
				break
			}
		}
	}
	return list
}

// mutual returns v and the nodes that it reaches and that reach it, ascending.
func mutual(r [][]bool, v int) []int {
	l := []int{}
	for w := range r {
		if v == w || r[v][w] && r[w][v] {
			l = append(l, w)
		}
	}
	return l
}

// mayComeNext reports whether all edges from a component lead to it or to listed nodes.
func mayComeNext(g api.Graph, component []int, listed []bool) bool {
	return !slices.ContainsFunc(g.Edges, func(e api.Edge) bool {
		return slices.Contains(component, e.From) && !slices.Contains(component, e.To) && !listed[e.To]
	})
}

func sameLists(a, b [][]int) bool { return slices.EqualFunc(a, b, slices.Equal[[]int]) }

func sameGraph(a, b api.Graph) bool { return a.N == b.N && slices.Equal(a.Edges, b.Edges) }

var sample = api.Graph{N: 3, Edges: edges(0, 1, 1, 0, 1, 2)}

func TestComponents(t *testing.T) { // P5.1
	if l, e := Components(sample); e != api.OK || !sameLists(l, [][]int{{2}, {0, 1}}) {
		t.Errorf("the example: %v", l)
	}
	for _, g := range graphs() {
		if l, e := Components(g); e != api.OK || !sameLists(l, model(g)) {
			t.Errorf("Components %v: %v, want %v", g, l, model(g))
		}
	}
}

func TestOf(t *testing.T) { // P5.2
	if l, e := Of(sample); e != api.OK || !slices.Equal(l, []int{1, 1, 0}) {
		t.Errorf("the example: %v", l)
	}
	for _, g := range graphs() {
		list := model(g)
		of, e := Of(g)
		if e != api.OK || len(of) != g.N {
			t.Fatalf("Of %v: %v", g, of)
		}
		for v, i := range of {
			if i < 0 || i >= len(list) || !slices.Contains(list[i], v) {
				t.Errorf("Of %v: %v", g, of)
			}
		}
	}
}

func TestBottomup(t *testing.T) { // P5.2
	if l, e := Bottomup(sample); e != api.OK || !slices.Equal(l, []int{2, 0, 1}) {
		t.Errorf("the example: %v", l)
	}
	for _, g := range graphs() {
		var want []int
		for _, component := range model(g) {
			want = append(want, component...)
		}
		if l, e := Bottomup(g); e != api.OK || !slices.Equal(l, want) {
			t.Errorf("Bottomup %v: %v, want %v", g, l, want)
		}
	}
}

func TestCondense(t *testing.T) { // P5.3
	if c, e := Condense(sample); e != api.OK || !sameGraph(c, api.Graph{N: 2, Edges: edges(1, 0)}) {
		t.Errorf("the example: %v", c)
	}
	for _, g := range graphs() {
		list := model(g)
		want := api.Graph{N: len(list)}
		for from, a := range list {
			for to, b := range list {
				joined := slices.ContainsFunc(g.Edges, func(e api.Edge) bool { return slices.Contains(a, e.From) && slices.Contains(b, e.To) })
				if from != to && joined {
					want.Edges = append(want.Edges, api.Edge{From: from, To: to})
				}
			}
		}
		if c, e := Condense(g); e != api.OK || !sameGraph(c, want) {
			t.Errorf("Condense %v: %v, want %v", g, c, want)
		}
	}
}

func TestRecursive(t *testing.T) { // P5.4
	if !Recursive(sample, 1) || Recursive(sample, 2) || !Recursive(api.Graph{N: 1, Edges: edges(0, 0)}, 0) {
		t.Error("the example")
	}
	for _, g := range graphs() {
		r := reaches(g)
		for v := range g.N {
			if Recursive(g, v) != r[v][v] {
				t.Errorf("Recursive %v %d: %t", g, v, !r[v][v])
			}
		}
		for _, v := range append([]int{g.N}, farNumbers...) {
			if Recursive(g, v) {
				t.Errorf("Recursive %v %d", g, v)
			}
		}
	}
}

func TestAcyclic(t *testing.T) { // P5.4, P5.7
	if Acyclic(sample) || !Acyclic(api.Graph{N: 2, Edges: edges(0, 1)}) || Acyclic(api.Graph{N: 2, Edges: edges(1, 1)}) || !Acyclic(api.Graph{}) {
		t.Error("small graphs")
	}
	for _, g := range graphs() {
		r := reaches(g)
		onCycle := false
		for v := range g.N {
			onCycle = onCycle || r[v][v]
		}
		if Acyclic(g) == onCycle {
			t.Errorf("Acyclic %v: %t", g, onCycle)
		}
		list, _ := Components(g)
		single := !slices.ContainsFunc(list, func(l []int) bool { return len(l) != 1 })
		loop := slices.ContainsFunc(g.Edges, func(e api.Edge) bool { return e.From == e.To })
		if Acyclic(g) != (single && !loop) {
			t.Errorf("Acyclic %v does not agree with the components %v", g, list)
		}
	}
}

func TestComponentsAreMutual(t *testing.T) { // P5.5
	for _, g := range graphs() {
		of, _ := Of(g)
		for v := range g.N {
			for w := range g.N {
				both := slices.Contains(graph.Reach(g, v), w) && slices.Contains(graph.Reach(g, w), v)
				if (of[v] == of[w]) != both {
					t.Errorf("%v: the components of %d and %d", g, v, w)
				}
			}
		}
	}
}

func TestCondenseGoesDown(t *testing.T) { // P5.6
	for _, g := range graphs() {
		c, _ := Condense(g)
		if graph.Check(c) != api.OK || !Acyclic(c) {
			t.Errorf("Condense %v: %v", g, c)
		}
		for _, edge := range c.Edges {
			if edge.From <= edge.To {
				t.Errorf("Condense %v: the edge %v", g, edge)
			}
		}
	}
}

// notValid returns graphs that are not valid, by what is wrong with them.
func notValid() map[string]api.Graph {
	return map[string]api.Graph{
		"N below 0":         {N: -1},
		"N the least int":   {N: math.MinInt, Edges: edges(0, 0)},
		"N too great":       {N: 8193},
		"N far too great":   {N: math.MaxInt, Edges: edges(1, 0, 0, 1)},
		"too many edges":    {N: 1, Edges: make([]api.Edge, api.MaxEdges+1)},
		"no such node":      {N: 2, Edges: edges(0, 1, 1, 2)},
		"an end below 0":    {N: 2, Edges: edges(-1, 0, 0, 1)},
		"not in order":      {N: 2, Edges: edges(1, 0, 0, 1)},
		"an edge twice":     {N: 2, Edges: edges(0, 1, 0, 1)},
		"a loop in between": {N: 3, Edges: edges(0, 0, 2, 2, 1, 1)},
	}
}

func TestGraphsThatAreNotValid(t *testing.T) { // P5.1 to P5.4
	for name, g := range notValid() {
		want := graph.Check(g)
		if want == api.OK {
			t.Fatalf("%s: valid", name)
		}
		if l, e := Components(g); e != want || len(l) != 0 {
			t.Errorf("%s: Components: %v %d", name, l, int(e))
		}
		if l, e := Of(g); e != want || len(l) != 0 {
			t.Errorf("%s: Of: %v %d", name, l, int(e))
		}
		if l, e := Bottomup(g); e != want || len(l) != 0 {
			t.Errorf("%s: Bottomup: %v %d", name, l, int(e))
		}
		if c, e := Condense(g); e != want || !sameGraph(c, api.Graph{}) {
			t.Errorf("%s: Condense: %v %d", name, c, int(e))
		}
		if Acyclic(g) {
			t.Errorf("%s: Acyclic", name)
		}
		for _, v := range append([]int{0, 1, 2}, farNumbers...) {
			if Recursive(g, v) {
				t.Errorf("%s: Recursive %d", name, v)
			}
		}
	}
}

func TestAllFunctionsOfTheEmptyGraph(t *testing.T) { // P5.1 to P5.4
	for _, g := range []api.Graph{{}, {Edges: []api.Edge{}}} {
		list, e1 := Components(g)
		of, e2 := Of(g)
		up, e3 := Bottomup(g)
		c, e4 := Condense(g)
		if e1 != api.OK || e2 != api.OK || e3 != api.OK || e4 != api.OK {
			t.Error("an error")
		}
		if len(list) != 0 || len(of) != 0 || len(up) != 0 || !sameGraph(c, api.Graph{}) || Recursive(g, 0) || !Acyclic(g) {
			t.Error("a result")
		}
	}
}

// line returns the graph of n nodes with an edge from each node to the next one, and these more.
func line(n int, more ...api.Edge) api.Graph {
	for v := range n - 1 {
		more = append(more, api.Edge{From: v, To: v + 1})
	}
	g, _ := graph.Make(n, more...)
	return g
}

func TestGraphsAtTheLimits(t *testing.T) { // P5.1 to P5.4
	const n = api.MaxNodes
	down := line(n)
	up, _ := Bottomup(down)
	slices.Reverse(up)
	if len(up) != n || !slices.IsSorted(up) || !Acyclic(down) {
		t.Error("a line of all nodes")
	}
	ring := line(n, api.Edge{From: n - 1, To: 0})
	list, _ := Components(ring)
	if c, _ := Condense(ring); len(list) != 1 || len(list[0]) != n || c.N != 1 || len(c.Edges) != 0 || Acyclic(ring) || !Recursive(ring, n-1) {
		t.Error("a ring of all nodes")
	}
	alone, _ := graph.Make(n)
	if up, e := Bottomup(alone); e != api.OK || len(up) != n || !slices.IsSorted(up) {
		t.Error("nodes without edges")
	}
	var ladder []api.Edge
	for v := range api.MaxEdges {
		ladder = append(ladder, api.Edge{From: v % n, To: (v%n*(v/n+2) + v/n) % n})
	}
	full, e := graph.Make(n, ladder...)
	of, e2 := Of(full)
	if e != api.OK || e2 != api.OK || len(of) != n {
		t.Fatal("many edges")
	}
	for _, edge := range full.Edges {
		if of[edge.From] < of[edge.To] {
			t.Errorf("the edge %v leads up", edge)
		}
	}
}

func TestLargerGraphs(t *testing.T) { // P5.1
	for i := range uint(12) {
		g := mixed(90, 60+20*int(i), i)
		if l, _ := Components(g); !sameLists(l, model(g)) {
			t.Errorf("seed %d: %v", i, l)
		}
	}
}

// spoil overwrites the whole memory of a list.
func spoil[T any](l []T, with T) {
	l = l[:cap(l)]
	for i := range l {
		l[i] = with
	}
}

func TestArgumentsStayAndResultsAreNew(t *testing.T) { // R5
	for _, sample := range graphs() {
		whole := append(slices.Clone(sample.Edges), edges(77, 78, 79, 80)...)
		before := slices.Clone(whole)
		g := api.Graph{N: sample.N, Edges: whole[:len(sample.Edges)]}
		of, _ := Of(g)
		spoil(of, -9)
		up, _ := Bottomup(g)
		spoil(up, -9)
		c, _ := Condense(g)
		spoil(c.Edges, api.Edge{From: -9})
		list, _ := Components(g)
		want := model(g)
		for i := range list {
			if !slices.Equal(list[i], want[i]) {
				t.Errorf("%v: a component shares memory with another one", sample)
			}
			spoil(list[i], -9)
		}
		Recursive(g, 0)
		Acyclic(g)
		if !slices.Equal(whole, before) {
			t.Fatalf("%v: an argument was changed, or shares memory with a result", sample)
		}
	}
}
