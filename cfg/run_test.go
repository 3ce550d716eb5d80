package cfg

import (
	"slices"
	"testing"

	"dataflow/api"
	"dataflow/graph"
	"dataflow/interp"
	"dataflow/lower"
	"dataflow/samples"
	"dataflow/units"
)

// known is what the layer tells of a function.
type known struct {
	edges    map[api.Edge]bool
	reached  []int // nodes
	live     []bool
	assigned [][]int
}

func knownOf(t *testing.T, f api.Func) known {
	t.Helper()
	g, e := Graph(f)
	if e != api.OK {
		t.Fatal(int(e))
	}
	k := known{map[api.Edge]bool{}, graph.Reach(g, 0), Live(f), Assigned(f)}
	for _, e := range g.Edges {
		k.edges[e] = true
	}
	return k
}

// follow calls a function with each edge of a function that an execution follows.
func follow(u api.Unit, x api.Exec, edge func(fn int, e api.Edge)) {
	exit := func(o api.Obs) int { return len(u.Funcs[o.Func].Code) }
	for k, o := range x.Obs {
		var next *api.Obs
		if k+1 < len(x.Obs) {
			next = &x.Obs[k+1]
		}
		op := u.Funcs[o.Func].Code[o.Instr].Op
		switch {
		case next != nil && next.Call == k: // a call
		case op == api.IReturn:
			edge(o.Func, api.Edge{From: o.Instr, To: exit(o)})
			if next != nil {
				caller := x.Obs[o.Call]
				edge(caller.Func, api.Edge{From: caller.Instr, To: next.Instr})
			}
		case next != nil || x.End == api.EndThrow:
			// An exception ends frames up to the one that goes on.
			for next == nil || o.Frame != next.Frame {
				edge(o.Func, api.Edge{From: o.Instr, To: exit(o) + 1})
				if o.Call == -1 {
					break
				}
				o = x.Obs[o.Call]
			}
			if next != nil {
				edge(o.Func, api.Edge{From: o.Instr, To: next.Instr})
			}
		}
	}
}

// checkExecution fails unless the control flow of an execution is what the layer tells, and counts what happens in it.
func checkExecution(t *testing.T, u api.Unit, x api.Exec, facts []known, counts map[string]int) {
	t.Helper()
	for _, o := range x.Obs {
		if !facts[o.Func].live[o.Instr] {
			t.Fatalf("instruction %d of function %d is visited", o.Instr, o.Func)
		}
		for _, v := range facts[o.Func].assigned[o.Instr] {
			if o.Vals[v].Kind == api.VUnset {
				t.Fatalf("variable %d is unset at %d of function %d", v, o.Instr, o.Func)
			}
			if v >= u.Funcs[o.Func].Params {
				counts["assigned"]++
			}
		}
	}
	follow(u, x, func(fn int, e api.Edge) {
		if !facts[fn].edges[e] || !slices.Contains(facts[fn].reached, e.From) || !slices.Contains(facts[fn].reached, e.To) {
			t.Fatalf("function %d has no edge %v that is reachable", fn, e)
		}
		switch n := len(u.Funcs[fn].Code); {
		case e.To == n:
			counts["exit"]++
		case e.To == n+1:
			counts["throw"]++
		case u.Funcs[fn].Code[e.To].Op == api.ICatch:
			counts["catch"]++
		default:
			counts["flow"]++
		}
	})
}

func TestExecutions(t *testing.T) { // P14.5, P14.6
	counts := map[string]int{}
	for seed := range uint(300) {
		program, e := lower.Program(samples.Throwing(seed, 1+int(seed%4)))
		if e != api.OK {
			t.Fatal(seed, int(e))
		}
		for _, u := range []api.Unit{program, units.Unit(seed)} {
			var facts []known
			for _, f := range u.Funcs {
				facts = append(facts, knownOf(t, f))
			}
			for k := range uint(6) {
				c := &chance{8*seed + k}
				var input []int64
				for range 100 {
					input = append(input, int64(max(c.upTo(6)-3, 0)))
				}
				x, e := interp.Run(u, input, 1000)
				if e != api.OK {
					t.Fatal(seed, int(e))
				}
				checkExecution(t, u, x, facts, counts)
			}
		}
	}
	for _, kind := range []string{"exit", "throw", "catch", "flow", "assigned"} {
		if counts[kind] < 1000 {
			t.Errorf("%s: %d", kind, counts[kind])
		}
	}
}
