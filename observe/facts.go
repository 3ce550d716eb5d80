package observe

import (
	"cmp"
	"maps"
	"slices"

	"dataflow/api"
)

// ascending returns the facts of a set in an order. Facts that an execution comes to again and again are in a set only once, which keeps the lists to sort short.
func ascending[F comparable](facts map[F]bool, order func(a, b F) int) []F {
	return slices.SortedFunc(maps.Keys(facts), order)
}

func comparePoints(a, b api.PointFact) int {
	return cmp.Or(cmp.Compare(a.Func, b.Func), cmp.Compare(a.Var, b.Var), cmp.Compare(a.Site, b.Site))
}

func compareCells(a, b api.CellFact) int {
	return cmp.Or(cmp.Compare(a.From, b.From), cmp.Compare(a.Field, b.Field), cmp.Compare(a.To, b.To))
}

func compareCalls(a, b api.CallEdge) int {
	return cmp.Or(cmp.Compare(a.Func, b.Func), cmp.Compare(a.Instr, b.Instr), cmp.Compare(a.Callee, b.Callee))
}

func compareInts(a, b api.IntFact) int {
	return cmp.Or(cmp.Compare(a.Func, b.Func), cmp.Compare(a.Instr, b.Instr), cmp.Compare(a.Var, b.Var), cmp.Compare(a.N, b.N))
}

func compareUses(a, b api.Use) int {
	return cmp.Or(cmp.Compare(a.Func, b.Func), cmp.Compare(a.Instr, b.Instr), cmp.Compare(a.Var, b.Var))
}

// isStep reports whether a number is the index of a step.
func isStep(x api.Exec, k int) bool { return 0 <= k && k < len(x.Obs) }

// instruction returns the instruction of a step, if there is one.
func instruction(u api.Unit, o api.Obs) (api.Instr, bool) {
	if o.Func < 0 || o.Func >= len(u.Funcs) {
		return api.Instr{}, false
	}
	code := u.Funcs[o.Func].Code
	if o.Instr < 0 || o.Instr >= len(code) {
		return api.Instr{}, false
	}
	return code[o.Instr], true
}

// none is a value of no kind.
const none = -1

// value returns the value of a variable at a step. Without one its kind is none.
func value(o api.Obs, v int) api.Val {
	if v < 0 || v >= len(o.Vals) {
		return api.Val{Kind: none}
	}
	return o.Vals[v]
}
