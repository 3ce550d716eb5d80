package cfg

import (
	"math"
	"slices"
	"strconv"
	"testing"

	"dataflow/api"
	"dataflow/lower"
	"dataflow/samples"
)

// variables returns a number of variables.
func variables(n int) []api.Field {
	var list []api.Field
	for k := range n {
		list = append(list, api.Field{Name: "x" + strconv.Itoa(k), Type: "int"})
	}
	return list
}

// function returns a function with two variables.
func function(code ...api.Instr) api.Func { return api.Func{Vars: variables(2), Code: code} }

func constant(dst int) api.Instr   { return api.Instr{Op: api.IConst, Dst: dst, Catch: -1} }
func copying(dst, a int) api.Instr { return api.Instr{Op: api.ICopy, Dst: dst, A: a, Catch: -1} }
func branch(a, to int) api.Instr   { return api.Instr{Op: api.IBranch, A: a, Goto: to, Catch: -1} }
func jump(to int) api.Instr        { return api.Instr{Op: api.IJump, Goto: to, Catch: -1} }
func returning(a int) api.Instr    { return api.Instr{Op: api.IReturn, A: a, Catch: -1} }
func throw(a, catch int) api.Instr { return api.Instr{Op: api.IThrow, A: a, Catch: catch} }
func handle(dst, catch int) api.Instr {
	return api.Instr{Op: api.ICatch, Dst: dst, Class: "A", Catch: catch}
}
func call(dst, a, catch int) api.Instr {
	return api.Instr{Op: api.ICall, Dst: dst, A: a, Args: []int{a}, Class: "A", Name: "m", Catch: catch}
}

// sameLists reports whether two lists of lists are equal.
func sameLists(a, b [][]int) bool { return slices.EqualFunc(a, b, slices.Equal[[]int]) }

// same fails unless all functions agree with the model.
func same(t *testing.T, f api.Func) {
	t.Helper()
	if !isClosed(f) {
		if g, e := Graph(f); e != api.ErrRange || g.N != 0 || len(g.Edges) != 0 {
			t.Fatalf("%v: %v, %d", f.Code, g, int(e))
		}
		if len(Live(f)) != 0 || len(Heads(f)) != 0 || len(Assigned(f)) != 0 || len(Liveness(f)) != 0 || Handler(f, 0) != -1 {
			t.Fatalf("%v: not empty", f.Code)
		}
		return
	}
	n := len(f.Code)
	if g, e := Graph(f); e != api.OK || g.N != n+2 || !slices.Equal(g.Edges, sortedEdges(f)) {
		t.Fatalf("%v: the graph is %v, %d", f.Code, g, int(e))
	}
	m := factsOf(f)
	if got := Live(f); !slices.Equal(got, m.live) {
		t.Fatalf("%v: live are %v, not %v", f.Code, got, m.live)
	}
	if got := Heads(f); !slices.Equal(got, m.heads) {
		t.Fatalf("%v: heads are %v, not %v", f.Code, got, m.heads)
	}
	if got := Assigned(f); !sameLists(got, m.assigned) {
		t.Fatalf("%v: assigned are %v, not %v", f.Code, got, m.assigned)
	}
	if got := Liveness(f); !sameLists(got, m.liveness) {
		t.Fatalf("%v: the liveness is %v, not %v", f.Code, got, m.liveness)
	}
	for i := -1; i <= n+2; i++ {
		want := -1
		if i >= 0 && i < n {
			want = f.Code[i].Catch
			if want == -1 {
				want = n + 1
			}
		}
		if got := Handler(f, i); got != want {
			t.Fatalf("%v: the handler of %d is %d, not %d", f.Code, i, got, want)
		}
	}
}

func TestExamples(t *testing.T) { // P14.1 to P14.4
	f := function(constant(0), returning(-1))
	if g, e := Graph(f); e != api.OK || g.N != 4 || !slices.Equal(g.Edges, []api.Edge{{From: 0, To: 1}, {From: 1, To: 2}}) {
		t.Error(g, int(e))
	}
	f = function(constant(0), branch(0, 3), jump(5), constant(0), jump(1), returning(-1))
	if got := Heads(f); !slices.Equal(got, []int{1}) {
		t.Error(got)
	}
	if got := Live(f); !slices.Equal(got, []bool{true, true, true, true, true, true}) {
		t.Error(got)
	}
	if got := Assigned(f); !sameLists(got, [][]int{{}, {0}, {0}, {0}, {0}, {0}}) {
		t.Error(got)
	}
	if got := Liveness(f); !sameLists(got, [][]int{{}, {0}, {}, {}, {0}, {}}) {
		t.Error(got)
	}
	f = function(throw(0, -1), jump(0), handle(0, 1), returning(0), returning(0))
	for i, want := range []int{6, 6, 1, 6, 6} {
		if got := Handler(f, i); got != want {
			t.Error(i, got)
		}
	}
}

func TestExceptions(t *testing.T) { // P14.1 to P14.4
	// A call assigns its result only if it returns, and a handler its variable only if the class fits.
	f := function(call(0, 1, 2), returning(0), handle(1, -1), returning(1))
	if g, e := Graph(f); e != api.OK || !slices.Equal(g.Edges, []api.Edge{{From: 0, To: 1}, {From: 0, To: 2}, {From: 1, To: 4}, {From: 2, To: 3}, {From: 2, To: 5}, {From: 3, To: 4}}) {
		t.Error(g, int(e))
	}
	if got := Assigned(f); !sameLists(got, [][]int{{}, {0}, {}, {1}}) {
		t.Error(got)
	}
	if got := Liveness(f); !sameLists(got, [][]int{{1}, {0}, {}, {1}}) {
		t.Error(got)
	}
	// A call may return to the instruction that is also its handler.
	f = function(call(0, 1, 1), returning(0))
	if g, e := Graph(f); e != api.OK || !slices.Equal(g.Edges, []api.Edge{{From: 0, To: 1}, {From: 1, To: 2}}) {
		t.Error(g, int(e))
	}
	if got := Assigned(f); !sameLists(got, [][]int{{}, {}}) {
		t.Error(got)
	}
	if got := Liveness(f); !sameLists(got, [][]int{{0, 1}, {0}}) {
		t.Error(got)
	}
}

func TestUnreachableInstructions(t *testing.T) { // P14.3, P14.4
	f := function(jump(3), copying(1, 0), jump(2), returning(-1))
	f.Params = 1
	if got := Live(f); !slices.Equal(got, []bool{true, false, false, true}) {
		t.Error(got)
	}
	if got := Heads(f); len(got) != 0 {
		t.Error(got)
	}
	if got := Assigned(f); !sameLists(got, [][]int{{0}, {0, 1}, {0, 1}, {0}}) {
		t.Error(got)
	}
	if got := Liveness(f); !sameLists(got, [][]int{{}, {0}, {}, {}}) {
		t.Error(got)
	}
}

// pool has instructions for functions of n instructions, of which some are not closed.
func pool(n int) []api.Instr {
	list := []api.Instr{constant(0), copying(1, 0), copying(0, 0), returning(1), returning(-1), {Op: 99, Dst: 0, A: 1, Catch: -1}}
	for to := -1; to <= n; to++ {
		list = append(list, branch(0, to), jump(to), throw(1, to), handle(1, to), call(0, 1, to), call(-1, 0, to))
	}
	return list
}

func TestSmallFunctions(t *testing.T) { // P14.1 to P14.4, P14.6
	same(t, function())
	for n := 1; n <= 3; n++ {
		list := pool(n)
		at := make([]int, n)
		for {
			f := function()
			for _, k := range at {
				f.Code = append(f.Code, list[k])
			}
			f.Params = (at[0] + at[n-1]) % 3 % 2
			same(t, f)
			k := 0
			for k < n && at[k] == len(list)-1 {
				at[k] = 0
				k++
			}
			if k == n {
				break
			}
			at[k]++
		}
	}
}

// chance gives numbers that look random.
type chance struct{ seed uint }

// upTo returns some number from 0 to n-1.
func (c *chance) upTo(n int) int {
	c.seed = c.seed*6364136223846793005 + 1442695040888963407
	return int(c.seed >> 33 % uint(n))
}

// random returns a function of n instructions, of all operations, that is closed.
func (c *chance) random(n int) api.Func {
	f := api.Func{Vars: variables(c.upTo(4)), Params: c.upTo(8) - 2}
	variable := func() int { return c.upTo(len(f.Vars)+3) - 2 }
	for k := range n {
		i := api.Instr{Op: c.upTo(20) - 1, Dst: variable(), A: variable(), B: variable(), Goto: c.upTo(n), Catch: -1}
		if c.upTo(3) == 0 {
			i.Catch = c.upTo(n)
		}
		for range c.upTo(3) {
			i.Args = append(i.Args, variable())
		}
		if k == n-1 {
			i.Op = []int{api.IJump, api.IReturn, api.IThrow}[c.upTo(3)]
		}
		f.Code = append(f.Code, i)
	}
	return f
}

func TestSomeFunctions(t *testing.T) { // P14.1 to P14.4, P14.6
	c := &chance{5}
	heads := 0
	for k := range 6000 {
		f := c.random(4 + k%5)
		same(t, f)
		heads += len(Heads(f))
	}
	if heads < 1000 {
		t.Errorf("there are %d heads", heads)
	}
}

func TestFunctionsOfPrograms(t *testing.T) { // P14.1 to P14.4
	compared := 0
	for seed := range uint(300) {
		u, e := lower.Program(samples.Program(seed, 1))
		if e != api.OK {
			t.Fatal(seed, int(e))
		}
		for _, f := range u.Funcs {
			if len(f.Code) <= 24 {
				same(t, f)
				compared++
			}
		}
	}
	if compared < 500 {
		t.Errorf("%d functions were compared", compared)
	}
}

func TestGraphErrors(t *testing.T) { // P14.1
	long := api.Func{Code: make([]api.Instr, api.MaxCode)}
	for k := range long.Code {
		long.Code[k] = returning(-1)
	}
	if g, e := Graph(long); e != api.OK || g.N != api.MaxCode+2 || len(g.Edges) != api.MaxCode {
		t.Error(g.N, int(e))
	}
	long.Code[5].Catch = api.MaxCode
	if g, e := Graph(long); e != api.ErrRange || g.N != 0 || len(g.Edges) != 0 {
		t.Error(g.N, int(e))
	}
	long.Code = append(long.Code, returning(-1))
	if g, e := Graph(long); e != api.ErrTooLong || g.N != 0 || len(g.Edges) != 0 {
		t.Error(g.N, int(e))
	}
	long.Code[5].Catch = -1
	if _, e := Graph(long); e != api.ErrTooLong {
		t.Error(int(e))
	}
	if len(Live(long)) != 0 || len(Heads(long)) != 0 || len(Assigned(long)) != 0 || len(Liveness(long)) != 0 || Handler(long, 0) != -1 {
		t.Error("a function that is too long is closed")
	}
	for _, n := range []int{math.MinInt, -2, 2, math.MaxInt} {
		same(t, function(branch(0, n), returning(-1)))
		same(t, function(jump(n), returning(-1)))
		same(t, function(throw(0, n), returning(-1)))
		same(t, function(returning(-1), jump(n)))
		same(t, function(returning(-1), returning(-1), constant(0)))
		if n < 0 || n > 2 {
			for _, f := range []api.Func{function(), function(returning(-1), returning(-1))} {
				if got := Handler(f, n); got != -1 {
					t.Error(n, got)
				}
			}
		}
	}
	// A Goto counts only where it is one.
	odd := returning(-1)
	odd.Goto = 7
	if _, e := Graph(function(odd)); e != api.OK {
		t.Error(int(e))
	}
}

func TestVariablesOutOfRange(t *testing.T) { // P14.4
	for _, v := range []int{math.MinInt, -2, -1, 2, math.MaxInt} {
		for _, params := range []int{math.MinInt, -1, 3, math.MaxInt} {
			f := function(copying(v, v), call(v, v, 0), returning(v))
			f.Params = params
			same(t, f)
		}
	}
}

func TestLastNodes(t *testing.T) { // P14.6
	c := &chance{6}
	for k := range 500 {
		f := c.random(1 + k%30)
		g, e := Graph(f)
		if e != api.OK {
			t.Fatal(f, int(e))
		}
		edges := map[api.Edge]bool{}
		for _, edge := range g.Edges {
			if edge.From >= len(f.Code) {
				t.Fatalf("%v: an edge leads from %d", f.Code, edge.From)
			}
			edges[edge] = true
		}
		for _, l := range links(f) {
			if !edges[api.Edge{From: l.from, To: l.to}] {
				t.Fatalf("%v: %v is missing", f.Code, l)
			}
		}
	}
}

func TestLargeFunctions(t *testing.T) { // R1
	// In one every instruction may go to the first ones, and in the other each one is a handler of all.
	f := api.Func{Vars: variables(api.MaxVars), Params: 3}
	g := api.Func{Vars: variables(api.MaxVars)}
	for k := range api.MaxCode - 1 {
		f.Code = append(f.Code, branch(k%256, k/2))
		g.Code = append(g.Code, call(k%256, (k+7)%256, (k*7+5)%api.MaxCode))
	}
	f.Code, g.Code = append(f.Code, returning(0)), append(g.Code, throw(3, 0))
	for _, h := range []api.Func{f, g} {
		if len(Live(h)) != api.MaxCode || len(Assigned(h)) != api.MaxCode || len(Liveness(h)) != api.MaxCode {
			t.Error("a list is too short")
		}
		Heads(h)
	}
	if got := Heads(f); len(got) != api.MaxCode/2 {
		t.Error(len(got))
	}
	f.Vars = variables(200000)
	f.Code = f.Code[:10]
	f.Code[9] = returning(0)
	if got := Assigned(f); len(got) != 10 || len(got[9]) != 3 {
		t.Error(len(got))
	}
}

func TestNoSharedMemory(t *testing.T) { // R5
	c := &chance{9}
	for range 200 {
		f := c.random(1 + c.upTo(6))
		f.Params = c.upTo(5)
		for k := range f.Code {
			args := append(slices.Clone(f.Code[k].Args), 1, 2)
			f.Code[k].Args = args[:len(args)-2]
		}
		before := factsOf(f)
		for _, lists := range [][][]int{Assigned(f), Liveness(f)} {
			for k, l := range lists {
				l = l[:cap(l)]
				for n := range l {
					l[n] = 1000 + k
				}
			}
			for k, l := range lists {
				for _, v := range l {
					if v != 1000+k {
						t.Fatalf("%v: two lists share memory", f.Code)
					}
				}
			}
		}
		for _, l := range Heads(f) {
			_ = l
		}
		if g, _ := Graph(f); len(g.Edges) > 0 {
			g.Edges[0] = api.Edge{From: 7, To: 7}
		}
		after := factsOf(f)
		if !sameLists(before.assigned, after.assigned) || !sameLists(before.liveness, after.liveness) {
			t.Fatalf("%v changed", f.Code)
		}
		for _, i := range f.Code {
			if args := i.Args[:cap(i.Args)]; args[len(i.Args)] != 1 || args[len(i.Args)+1] != 2 {
				t.Fatalf("%v: what stands behind the arguments changed", i)
			}
		}
		same(t, f)
	}
}
