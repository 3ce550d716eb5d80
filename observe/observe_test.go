package observe

import (
	"math"
	"slices"
	"testing"

	"dataflow/api"
	"dataflow/interp"
	"dataflow/lower"
	"dataflow/parse"
)

// unit returns the unit of a program.
func unit(t *testing.T, text string) api.Unit {
	t.Helper()
	src, _, e := parse.Program(text)
	if e != api.OK {
		t.Fatalf("%s: %d", text, int(e))
	}
	u, e := lower.Program(src)
	if e != api.OK {
		t.Fatalf("%s: %d", text, int(e))
	}
	return u
}

// run returns an execution of a unit.
func run(t *testing.T, u api.Unit, steps int, input ...int64) api.Exec {
	t.Helper()
	x, e := interp.Run(u, input, steps)
	if e != api.OK {
		t.Fatal(int(e))
	}
	return x
}

// same fails unless two lists are equal.
func same[F comparable](t *testing.T, got []F, want ...F) {
	t.Helper()
	if !slices.Equal(got, want) {
		t.Errorf("%v, not %v", got, want)
	}
}

func TestExamples(t *testing.T) { // P16.1 to P16.6
	u := unit(t, "class Main { static def main() { var x: int = input(); } }")
	x := run(t, u, 100, 7)
	same(t, Ints(x), api.IntFact{Func: 0, Instr: 1, Var: 1, N: 7}, api.IntFact{Func: 0, Instr: 2, Var: 0, N: 7}, api.IntFact{Func: 0, Instr: 2, Var: 1, N: 7})
	same(t, Points(x))
	same(t, Sites(u))

	// main calls function 2 with its instruction 5. Its variables are x, y and two temporaries.
	u = unit(t, `class A { var f: A; static def s(a: A) { } def m(a: A) { } }
class Main { static def main() { var x: A = new A(); x.f = new A(); x.m(null); var y: int; x.m(x); A::s(x); y = y + 1; } }`)
	x = run(t, u, 100)
	same(t, Cells(u, x), api.CellFact{From: 0, Field: "f", To: 1})
	same(t, Sites(u), api.Site{Func: 2, Instr: 0, Class: "A"}, api.Site{Func: 2, Instr: 2, Class: "A"})
	same(t, Points(x),
		api.PointFact{Func: 0, Var: 0, Site: 0}, api.PointFact{Func: 1, Var: 0, Site: 0}, api.PointFact{Func: 1, Var: 1, Site: 0},
		api.PointFact{Func: 2, Var: 0, Site: 0}, api.PointFact{Func: 2, Var: 2, Site: 0}, api.PointFact{Func: 2, Var: 3, Site: 1})
	calls := []api.CallEdge{{Func: 2, Instr: 5, Callee: 1}, {Func: 2, Instr: 6, Callee: 1}, {Func: 2, Instr: 7, Callee: 0}}
	same(t, Calls(u, x), calls...)
	same(t, Unset(u, x), api.Use{Func: 2, Instr: 8, Var: 1})
	// The calls are the steps 5, 7 and 9, each followed by the return of its callee.
	for step, want := range [][]int{5: nil, 6: {5}, 7: nil, 8: {7}, 9: nil, 10: {9}, 13: nil} {
		same(t, Stack(x, step), want...)
	}
	// A call that is the last step is no edge yet.
	for steps, count := range []int{6: 0, 7: 1, 8: 1, 9: 2, 10: 2, 11: 3} {
		if count > 0 || steps == 6 {
			same(t, Calls(u, run(t, u, steps)), calls[:count]...)
		}
	}

	u = unit(t, "class Main { static def main() { var x: int; var y: int = x; } }")
	same(t, Unset(u, run(t, u, 100)), api.Use{Func: 0, Instr: 0, Var: 0})
}

func TestUsesOfUnsetVariables(t *testing.T) { // P16.4
	u := unit(t, `class A { var f: A; def m(a: A, b: A): A { return b; } }
class Main { static def main() { var a: A; var b: A; a = new A(); a.f = b; a.m(a, b); a.m(b, b); if (b == a) { } var n: int; if (n) { } b = null; a.m(a, b); while (n < n) { } b.m(b, b); } }`)
	// The variables of main are a, b and n. What a method was passed is not unset in it, and neither is what is null.
	same(t, Unset(u, run(t, u, 200)),
		api.Use{Func: 1, Instr: 2, Var: 1}, api.Use{Func: 1, Instr: 3, Var: 1}, api.Use{Func: 1, Instr: 4, Var: 1}, api.Use{Func: 1, Instr: 5, Var: 1},
		api.Use{Func: 1, Instr: 8, Var: 2}, api.Use{Func: 1, Instr: 13, Var: 2})
	// A return and a throw read their operand, and a return without one reads nothing.
	u = unit(t, `class A { static def m(): A { var b: A; return b; } }
class Main { static def main() { var a: A; a = A::m(); a = null; var b: A; if (0) { return; } throw b; } }`)
	same(t, Unset(u, run(t, u, 200)), api.Use{Func: 0, Instr: 0, Var: 0}, api.Use{Func: 1, Instr: 8, Var: 1})
}

func TestStack(t *testing.T) { // P16.5
	u := unit(t, `class A { static def a() { A::b(); A::b(); } static def b() { A::c(); } static def c() { } }
class Main { static def main() { A::a(); } }`)
	x := run(t, u, 100)
	for step, want := range [][]int{nil, {0}, {0, 1}, {0, 1, 2}, {0, 1}, {0}, {0, 5}, {0, 5, 6}, {0, 5}, {0}, nil} {
		same(t, Stack(x, step), want...)
	}
	for _, step := range []int{math.MinInt, -1, len(x.Obs), math.MaxInt} {
		same(t, Stack(x, step))
	}
	// In any record the list ends where the step is not an earlier one.
	calls := func(calls ...int) (x api.Exec) {
		for _, c := range calls {
			x.Obs = append(x.Obs, api.Obs{Call: c})
		}
		return x
	}
	for _, c := range []struct {
		x    api.Exec
		step int
		want []int
	}{
		{calls(0), 0, nil}, {calls(1, 0), 0, nil}, {calls(1, 0), 1, []int{0}}, {calls(2, 1, 1), 2, []int{1}}, {calls(2, 0, 1), 2, []int{0, 1}},
		{calls(-1, 0, 3, 1), 2, nil}, {calls(-1, 0, 3, 1), 3, []int{0, 1}}, {calls(-2, math.MinInt, 1), 2, []int{1}}, {calls(math.MaxInt, 0), 1, []int{0}},
		{calls(0, 0, 0, 0), 3, []int{0}}, {calls(1, 5, 1, 2, 3), 4, []int{1, 2, 3}}, {calls(-1, -1), 1, nil}, {calls(), 0, nil}, {calls(), -1, nil},
	} {
		same(t, Stack(c.x, c.step), c.want...)
	}
	// A long one.
	var long api.Exec
	for k := range 100000 {
		long.Obs = append(long.Obs, api.Obs{Call: k - 1})
	}
	if got := Stack(long, 99999); len(got) != 99999 || got[5] != 5 {
		t.Error(len(got))
	}
}

func TestRecordsOfNoExecution(t *testing.T) { // P16.1 to P16.4
	ref := func(site int) api.Val { return api.Val{Kind: api.VRef, Site: site} }
	// Variables are those that have values, and sites and functions are what the record says.
	x := api.Exec{Obs: []api.Obs{
		{Func: 9, Instr: -3, Vals: []api.Val{{}, ref(5), {Kind: api.VInt, N: math.MinInt64, Site: 4}}},
		{Func: -1, Instr: math.MaxInt, Vals: []api.Val{ref(-2), {Kind: api.VInt, N: math.MaxInt64}, {Kind: 4}, {Kind: -1}, {Kind: api.VNull}}},
		{Func: -1, Instr: math.MaxInt, Vals: []api.Val{ref(math.MinInt), {Kind: api.VInt, N: math.MinInt64}}},
		{Func: -1, Instr: math.MinInt, Vals: []api.Val{ref(-2), {Kind: api.VInt, N: math.MinInt64}}},
	}}
	same(t, Points(x), api.PointFact{Func: -1, Var: 0, Site: math.MinInt}, api.PointFact{Func: -1, Var: 0, Site: -2}, api.PointFact{Func: 9, Var: 1, Site: 5})
	same(t, Ints(x),
		api.IntFact{Func: -1, Instr: math.MinInt, Var: 1, N: math.MinInt64}, api.IntFact{Func: -1, Instr: math.MaxInt, Var: 1, N: math.MinInt64},
		api.IntFact{Func: -1, Instr: math.MaxInt, Var: 1, N: math.MaxInt64}, api.IntFact{Func: 9, Instr: -3, Var: 2, N: math.MinInt64})
	// Operands that are no variables of the step have no value.
	for _, v := range []int{math.MinInt, -1, 2, math.MaxInt} {
		u := api.Unit{Funcs: []api.Func{{Code: []api.Instr{{Op: api.IStore, A: v, B: 0, Name: "f"}, {Op: api.IStore, A: 0, B: v, Name: "f"}, {Op: api.ICopy, A: v}, {Op: api.IReturn, A: v}}}}}
		for i := range 4 {
			y := api.Exec{Obs: []api.Obs{{Instr: i, Vals: []api.Val{ref(0), ref(1)}}, {Instr: i, Vals: make([]api.Val, 2)}}}
			same(t, Cells(u, y))
			want := []api.Use{{Instr: i}} // of the other operand
			same(t, Unset(u, y), want[:(3-i)/2]...)
		}
	}
	// Steps without an instruction.
	u := api.Unit{Funcs: []api.Func{{Code: []api.Instr{{Op: api.IStatic, Args: []int{0}}}}, {}}}
	for _, at := range [][2]int{{-1, 0}, {2, 0}, {1, 0}, {0, 1}, {0, -1}, {math.MinInt, 0}, {math.MaxInt, 0}, {0, math.MinInt}, {0, math.MaxInt}} {
		y := api.Exec{Obs: []api.Obs{{Func: at[0], Instr: at[1], Call: -1, Vals: make([]api.Val, 1)}, {Func: 5, Call: 0}}}
		same(t, Calls(u, y))
		same(t, Unset(u, y))
		same(t, Cells(u, y))
	}
	// A step may be its own call, or that of an earlier one.
	y := api.Exec{Obs: []api.Obs{{Func: 7, Call: 1}, {Func: 0, Call: 1}, {Func: -7, Call: 1}, {Func: 8, Call: 4}, {Func: 9, Call: -1}, {Func: 9, Call: math.MinInt}, {Func: 7, Call: 1}, {Func: 9, Call: 7}, {Func: 9, Call: math.MaxInt}}}
	same(t, Calls(u, y), api.CallEdge{Callee: -7}, api.CallEdge{Callee: 0}, api.CallEdge{Callee: 7})
	same(t, Points(api.Exec{}))
	same(t, Ints(api.Exec{}))
	same(t, Cells(api.Unit{}, api.Exec{}))
	same(t, Calls(api.Unit{}, api.Exec{}))
	same(t, Unset(api.Unit{}, api.Exec{}))
	same(t, Sites(api.Unit{}))
}

func TestSitesOfAnyUnit(t *testing.T) { // P16.6
	u := api.Unit{Funcs: []api.Func{
		{Code: []api.Instr{{Op: api.INop, Class: "A"}, {Op: api.INew, Class: "B"}, {Op: api.INew}}},
		{},
		{Code: []api.Instr{{Op: api.INew, Class: "A", Name: "x", Dst: -9}, {Op: 99, Class: "C"}, {Op: api.ICatch, Class: "C"}, {Op: api.INew, Class: "A"}}},
	}}
	same(t, Sites(u), api.Site{Func: 0, Instr: 1, Class: "B"}, api.Site{Func: 0, Instr: 2}, api.Site{Func: 2, Instr: 0, Class: "A"}, api.Site{Func: 2, Instr: 3, Class: "A"})
}

func TestOrder(t *testing.T) { // P16.1 to P16.4
	// Each step comes again and again, from the greatest fact to the least.
	ref := func(site int) api.Val { return api.Val{Kind: api.VRef, Site: site} }
	names := []string{"Z", "a", "aa", "b"}
	var code []api.Instr
	for _, name := range names {
		code = append(code, api.Instr{Op: api.IStore, A: 0, B: 1, Name: name}, api.Instr{Op: api.IStatic, Args: []int{3, 2}})
	}
	u := api.Unit{Funcs: []api.Func{{Code: code}, {Code: code}}}
	var x api.Exec
	for range 2 {
		for n := 31; n >= 0; n-- {
			fn, at, from, to := n/16, n/4%4, n/2%2, n%2
			k := len(x.Obs)
			x.Obs = append(x.Obs,
				api.Obs{Func: fn, Instr: 2 * at, Call: -1, Vals: []api.Val{ref(from), ref(to)}},
				api.Obs{Func: fn, Instr: 2*at + 1, Call: -1, Vals: []api.Val{{Kind: api.VInt, N: int64(-from)}, {Kind: api.VInt, N: int64(to)}, {}, {}}},
				api.Obs{Func: 2 - from, Instr: -1, Call: k + 1})
		}
	}
	var cells []api.CellFact
	var points []api.PointFact
	var calls []api.CallEdge
	var ints []api.IntFact
	var uses []api.Use
	for from := range 2 {
		for _, name := range names {
			cells = append(cells, api.CellFact{From: from, Field: name, To: 0}, api.CellFact{From: from, Field: name, To: 1})
		}
	}
	for fn := range 2 {
		for v := range 2 {
			points = append(points, api.PointFact{Func: fn, Var: v, Site: 0}, api.PointFact{Func: fn, Var: v, Site: 1})
		}
		for at := 1; at < 8; at += 2 {
			calls = append(calls, api.CallEdge{Func: fn, Instr: at, Callee: 1}, api.CallEdge{Func: fn, Instr: at, Callee: 2})
			for _, n := range []int64{-1, 0, 0, 1} {
				ints = append(ints, api.IntFact{Func: fn, Instr: at, Var: len(ints) / 2 % 2, N: n})
			}
			uses = append(uses, api.Use{Func: fn, Instr: at, Var: 2}, api.Use{Func: fn, Instr: at, Var: 3})
		}
	}
	same(t, Cells(u, x), cells...)
	same(t, Points(x), points...)
	same(t, Calls(u, x), calls...)
	same(t, Ints(x), ints...)
	same(t, Unset(u, x), uses...)
}
