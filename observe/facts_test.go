package observe

import (
	"reflect"
	"slices"
	"testing"

	"dataflow/api"
	"dataflow/hier"
	"dataflow/interp"
	"dataflow/ir"
	"dataflow/lower"
	"dataflow/samples"
	"dataflow/units"
)

// chance gives numbers that look random.
type chance struct{ seed uint }

// upTo returns some number from 0 to n-1.
func (c *chance) upTo(n int) int {
	c.seed = c.seed*6364136223846793005 + 1442695040888963407
	return int(c.seed >> 33 % uint(n))
}

// near returns some number from -1 to n.
func (c *chance) near(n int) int { return c.upTo(n+2) - 1 }

// anyUnit returns a unit of two functions, which is hardly ever valid.
func (c *chance) anyUnit() api.Unit {
	var u api.Unit
	for range 2 {
		var f api.Func
		for range c.upTo(5) {
			i := api.Instr{Op: c.near(17), Dst: c.near(3), A: c.near(4), B: c.near(4), Name: []string{"f", "g"}[c.upTo(2)], Class: "A"}
			if c.upTo(2) == 0 {
				i.Op = []int{api.IStore, api.IStore, api.ICall, api.IStatic}[c.upTo(4)]
			}
			for range c.upTo(3) {
				i.Args = append(i.Args, c.near(4))
			}
			f.Code = append(f.Code, i)
		}
		u.Funcs = append(u.Funcs, f)
	}
	return u
}

// anyRecord returns a record that is hardly ever an execution.
func (c *chance) anyRecord() api.Exec {
	var x api.Exec
	n := c.upTo(8)
	for range n {
		o := api.Obs{Func: c.near(2), Instr: c.near(4), Frame: c.near(3), Call: c.near(n)}
		if c.upTo(3) > 0 {
			o.Func, o.Instr = c.upTo(2), c.upTo(3)
		}
		for range c.upTo(5) {
			o.Vals = append(o.Vals, api.Val{Kind: []int{-1, 0, 0, 1, 2, 3, 3, 3, 3, 4}[c.upTo(10)], N: int64(c.near(1)), Site: c.near(1)})
		}
		x.Obs = append(x.Obs, o)
	}
	return x
}

// The model asks for each fact whether there is a step from which it follows.

// all calls a function with all lists of numbers that are near.
func all(ends []int, each func(list []int), list ...int) {
	if len(list) == len(ends) {
		each(list)
		return
	}
	for n := -1; n <= ends[len(list)]; n++ {
		all(ends, each, append(slices.Clone(list), n)...)
	}
}

// has reports whether a step has a value of a kind in a variable.
func has(o api.Obs, v, kind int) bool { return v >= 0 && v < len(o.Vals) && o.Vals[v].Kind == kind }

// at reports whether a step is at an instruction of one of some operations.
func at(u api.Unit, o api.Obs, operations ...int) bool {
	for fn, f := range u.Funcs {
		for k, i := range f.Code {
			if fn == o.Func && k == o.Instr && slices.Contains(operations, i.Op) {
				return true
			}
		}
	}
	return false
}

// operands returns the variables that an instruction reads.
func operands(i api.Instr) []int {
	switch i.Op {
	case api.ICopy, api.ILoad, api.IBranch, api.IThrow, api.IShift, api.IReturn:
		return []int{i.A}
	case api.IBin, api.IStore:
		return []int{i.A, i.B}
	case api.ICall:
		return append([]int{i.A}, i.Args...)
	case api.IStatic:
		return i.Args
	}
	return nil
}

// exists reports whether some step of a record fits.
func exists(x api.Exec, fits func(o api.Obs) bool) bool { return slices.ContainsFunc(x.Obs, fits) }

func modelPoints(x api.Exec) (facts []api.PointFact) {
	all([]int{2, 4, 1}, func(l []int) {
		if exists(x, func(o api.Obs) bool { return o.Func == l[0] && has(o, l[1], api.VRef) && o.Vals[l[1]].Site == l[2] }) {
			facts = append(facts, api.PointFact{Func: l[0], Var: l[1], Site: l[2]})
		}
	})
	return facts
}

func modelInts(x api.Exec) (facts []api.IntFact) {
	all([]int{2, 4, 4, 1}, func(l []int) {
		if exists(x, func(o api.Obs) bool {
			return o.Func == l[0] && o.Instr == l[1] && has(o, l[2], api.VInt) && o.Vals[l[2]].N == int64(l[3])
		}) {
			facts = append(facts, api.IntFact{Func: l[0], Instr: l[1], Var: l[2], N: int64(l[3])})
		}
	})
	return facts
}

func modelCells(u api.Unit, x api.Exec) (facts []api.CellFact) {
	all([]int{1, 0, 1}, func(l []int) {
		field := []string{"f", "g"}[l[1]+1]
		if exists(x, func(o api.Obs) bool {
			if !at(u, o, api.IStore) {
				return false
			}
			i := u.Funcs[o.Func].Code[o.Instr]
			return i.Name == field && has(o, i.A, api.VRef) && has(o, i.B, api.VRef) && o.Vals[i.A].Site == l[0] && o.Vals[i.B].Site == l[2]
		}) {
			facts = append(facts, api.CellFact{From: l[0], Field: field, To: l[2]})
		}
	})
	return facts
}

func modelCalls(u api.Unit, x api.Exec) (facts []api.CallEdge) {
	all([]int{2, 4, 2}, func(l []int) {
		if exists(x, func(o api.Obs) bool {
			for k, caller := range x.Obs {
				if k == o.Call && caller.Func == l[0] && caller.Instr == l[1] && at(u, caller, api.ICall, api.IStatic) {
					return o.Func == l[2]
				}
			}
			return false
		}) {
			facts = append(facts, api.CallEdge{Func: l[0], Instr: l[1], Callee: l[2]})
		}
	})
	return facts
}

func modelUses(u api.Unit, x api.Exec) (facts []api.Use) {
	operations := []int{}
	for op := -1; op <= 17; op++ {
		operations = append(operations, op)
	}
	all([]int{2, 4, 4}, func(l []int) {
		if exists(x, func(o api.Obs) bool {
			return o.Func == l[0] && o.Instr == l[1] && at(u, o, operations...) && slices.Contains(operands(u.Funcs[l[0]].Code[l[1]]), l[2]) && has(o, l[2], api.VUnset)
		}) {
			facts = append(facts, api.Use{Func: l[0], Instr: l[1], Var: l[2]})
		}
	})
	return facts
}

func TestFactsLikeTheModel(t *testing.T) { // P16.1 to P16.4
	c := &chance{1}
	counts := map[string]int{}
	for range 10000 {
		u, x := c.anyUnit(), c.anyRecord()
		same(t, Points(x), modelPoints(x)...)
		same(t, Ints(x), modelInts(x)...)
		same(t, Cells(u, x), modelCells(u, x)...)
		same(t, Calls(u, x), modelCalls(u, x)...)
		same(t, Unset(u, x), modelUses(u, x)...)
		if t.Failed() {
			t.Fatalf("%v: %v", u, x)
		}
		counts["points"] += len(Points(x))
		counts["ints"] += len(Ints(x))
		counts["cells"] += len(Cells(u, x))
		counts["calls"] += len(Calls(u, x))
		counts["uses"] += len(Unset(u, x))
	}
	for _, name := range []string{"points", "ints", "cells", "calls", "uses"} {
		if counts[name] < 100 {
			t.Errorf("there are %d %s", counts[name], name)
		}
	}
}

func TestStacksLikeTheModel(t *testing.T) { // P16.5
	var stack func(x api.Exec, step, before int) []int
	stack = func(x api.Exec, step, before int) []int {
		if step < 0 || step >= before {
			return nil
		}
		return append(stack(x, x.Obs[step].Call, step), step)
	}
	c := &chance{2}
	lengths := map[int]int{}
	for range 20000 {
		x := c.anyRecord()
		for step := -2; step <= len(x.Obs)+1; step++ {
			var want []int
			if step >= 0 && step < len(x.Obs) {
				want = stack(x, x.Obs[step].Call, step)
			}
			got := Stack(x, step)
			if !slices.Equal(got, want) {
				t.Fatalf("%v: %v at %d, not %v", x, got, step, want)
			}
			lengths[len(got)]++
		}
	}
	if lengths[3] < 30 {
		t.Error(lengths)
	}
}

// executions calls a function with units of programs, one of which has many exceptions, and with units that are of none, and with an input of each.
func executions(n uint, each func(u api.Unit, input []int64)) {
	for seed := range n {
		list := []api.Unit{units.Unit(seed)}
		for _, src := range []api.Source{samples.Program(seed, 1+int(seed%8)), samples.Throwing(seed, 1+int(seed%4))} {
			u, e := lower.Program(src)
			if e != api.OK {
				panic("a sample cannot be lowered")
			}
			list = append(list, u)
		}
		c := &chance{seed}
		for _, u := range list {
			var input []int64
			for range c.upTo(40) {
				input = append(input, int64(max(c.upTo(8)-4, 0)))
			}
			each(u, input)
		}
	}
}

func TestExecutions(t *testing.T) { // P16.7
	counts := map[string]int{}
	executions(500, func(u api.Unit, input []int64) {
		x := run(t, u, 600, input...)
		sites := Sites(u)
		for _, p := range Points(x) {
			if p.Site < 0 || p.Site >= len(sites) || !hier.IsSub(u.Hier, sites[p.Site].Class, u.Funcs[p.Func].Vars[p.Var].Type) {
				t.Fatalf("%v refers to no object of its type", p)
			}
			counts["points"]++
		}
		for _, f := range Cells(u, x) {
			if f.From < 0 || f.From >= len(sites) || f.To < 0 || f.To >= len(sites) {
				t.Fatalf("%v has no sites", f)
			}
			_, typ, found := hier.Field(u.Hier, sites[f.From].Class, f.Field)
			if !found || !hier.IsSub(u.Hier, sites[f.To].Class, typ) {
				t.Fatalf("%v refers to no object of its type", f)
			}
			counts["cells"]++
		}
		for _, c := range Calls(u, x) {
			i := u.Funcs[c.Func].Code[c.Instr]
			possible := []int{ir.Find(u, i.Class, i.Name)}
			if i.Op == api.ICall {
				possible = nil
				for _, class := range hier.Subs(u.Hier, i.Class) {
					possible = append(possible, interp.Dispatch(u, class, i.Name))
				}
			}
			if !slices.Contains(possible, c.Callee) {
				t.Fatalf("%v calls none of %v", c, possible)
			}
			counts["calls"]++
		}
		followed(t, u, x, sites, counts)
	})
	for _, kind := range []string{"points", "cells", "calls", "new", "dispatched", "static"} {
		if counts[kind] < 300 {
			t.Errorf("%s: %d", kind, counts[kind])
		}
	}
}

// followed fails unless new objects and calls of an execution are what their instructions say.
func followed(t *testing.T, u api.Unit, x api.Exec, sites []api.Site, counts map[string]int) {
	t.Helper()
	for k := 1; k < len(x.Obs); k++ {
		o, next := x.Obs[k-1], x.Obs[k]
		i := u.Funcs[o.Func].Code[o.Instr]
		want := -1
		switch {
		case i.Op == api.INew:
			if s := sites[next.Vals[i.Dst].Site]; s != (api.Site{Func: o.Func, Instr: o.Instr, Class: i.Class}) {
				t.Fatalf("the object of %d of function %d belongs to %v", o.Instr, o.Func, s)
			}
			counts["new"]++
		case next.Call != k-1:
		case i.Op == api.ICall:
			want = interp.Dispatch(u, sites[o.Vals[i.A].Site].Class, i.Name)
			counts["dispatched"]++
		case i.Op == api.IStatic:
			want = ir.Find(u, i.Class, i.Name)
			counts["static"]++
		}
		if want != -1 && want != next.Func || want == -1 && next.Call == k-1 {
			t.Fatalf("%d of function %d calls %d, not %d", o.Instr, o.Func, next.Func, want)
		}
	}
}

// kept fails unless all facts of one list are in another one.
func kept[F comparable](t *testing.T, few, many []F) {
	t.Helper()
	for _, f := range few {
		if !slices.Contains(many, f) {
			t.Fatalf("%v disappeared", f)
		}
	}
}

func TestMoreSteps(t *testing.T) { // P16.8
	executions(40, func(u api.Unit, input []int64) {
		many := run(t, u, 160, input...)
		for _, steps := range []int{0, 1, 2, 5, 10, 20, 40, 80, 120, 159} {
			few := run(t, u, steps, input...)
			kept(t, Points(few), Points(many))
			kept(t, Cells(u, few), Cells(u, many))
			kept(t, Calls(u, few), Calls(u, many))
			kept(t, Ints(few), Ints(many))
			kept(t, Unset(u, few), Unset(u, many))
			for step := range few.Obs {
				same(t, Stack(few, step), Stack(many, step)...)
			}
		}
	})
}

func TestNoChangesOfArguments(t *testing.T) { // R5, R6
	executions(60, func(u api.Unit, input []int64) {
		x := run(t, u, 200, input...)
		before := run(t, u, 200, input...)
		text, _ := ir.Text(u)
		for range 2 {
			same(t, Points(x), Points(before)...)
			same(t, Cells(u, x), Cells(u, before)...)
			same(t, Calls(u, x), Calls(u, before)...)
			same(t, Ints(x), Ints(before)...)
			same(t, Unset(u, x), Unset(u, before)...)
			same(t, Sites(u), Sites(u)...)
			for step := range x.Obs {
				Stack(x, step)
			}
		}
		if again, _ := ir.Text(u); again != text || !reflect.DeepEqual(x, before) {
			t.Fatal("an argument changed")
		}
	})
}

func TestLargeRecords(t *testing.T) { // R1
	// Each value of the record is another fact, or all of them are the same one.
	var many, one api.Exec
	for k := range api.MaxSteps {
		vals := make([]api.Val, api.MaxVars)
		for v := range vals {
			vals[v] = api.Val{Kind: api.VInt, N: int64(k % 16)}
		}
		many.Obs = append(many.Obs, api.Obs{Func: k % 7, Instr: k % 30, Call: k - 1, Vals: vals})
		one.Obs = append(one.Obs, api.Obs{Call: k - 1, Vals: make([]api.Val, api.MaxVars)})
		one.Obs[k].Vals[3] = api.Val{Kind: api.VRef}
	}
	if got := Ints(many); len(got) != 7*240*api.MaxVars || got[1].N != 15 && got[1].N <= got[0].N {
		t.Error(len(got))
	}
	same(t, Points(one), api.PointFact{Var: 3})
}
