package cfg

import (
	"iter"
	"slices"

	"dataflow/api"
	"dataflow/ir"
)

// edge is an edge of the control flow. A normal one from an instruction that assigns a variable has this variable, and any other one -1: an instruction that raises an exception assigns nothing.
type edge struct{ from, to, assigns int }

// closed reports whether the control flow of a function stays within it.
func closed(f api.Func) bool {
	n := len(f.Code)
	if n > api.MaxCode {
		return false
	}
	for _, i := range f.Code {
		goes := i.Op == api.IBranch || i.Op == api.IJump
		if i.Catch < -1 || i.Catch >= n || goes && (i.Goto < 0 || i.Goto >= n) {
			return false
		}
	}
	return n == 0 || slices.Contains([]int{api.IJump, api.IReturn, api.IThrow}, f.Code[n-1].Op)
}

// exit returns the exit node of a function.
func exit(f api.Func) int { return len(f.Code) }

// handler returns the handler node of an instruction.
func handler(f api.Func, i int) int {
	if f.Code[i].Catch == -1 {
		return exit(f) + 1
	}
	return f.Code[i].Catch
}

// edges produces the edges of the control flow of a closed function.
func edges(f api.Func) iter.Seq[edge] {
	return func(yield func(edge) bool) {
		for i, instr := range f.Code {
			for _, next := range ir.Next(f, i) {
				if !yield(edge{i, next, ir.Def(instr)}) {
					return
				}
			}
			if instr.Op == api.IReturn && !yield(edge{i, exit(f), -1}) {
				return
			}
			if ir.Raises(instr) && !yield(edge{i, handler(f, i), -1}) {
				return
			}
		}
	}
}

// step is an edge as it is followed from one of its ends: the other end, and what the edge assigns.
type step struct{ to, assigns int }

// forward returns the steps from each node along the edges.
func forward(f api.Func) [][]step {
	steps := make([][]step, exit(f)+2)
	for e := range edges(f) {
		steps[e.from] = append(steps[e.from], step{e.to, e.assigns})
	}
	return steps
}

// backward returns the steps from each node against the edges.
func backward(f api.Func) [][]step {
	steps := make([][]step, exit(f)+2)
	for e := range edges(f) {
		steps[e.to] = append(steps[e.to], step{e.from, e.assigns})
	}
	return steps
}

// spread returns for each node whether steps lead to it from one of the given nodes, none of which assigns v.
func spread(steps [][]step, v int, from ...int) []bool {
	reached := make([]bool, len(steps))
	var list []int
	add := func(node int) {
		if !reached[node] {
			reached[node] = true
			list = append(list, node)
		}
	}
	for _, node := range from {
		add(node)
	}
	// The list grows while it is processed.
	for k := 0; k < len(list); k++ {
		for _, s := range steps[list[k]] {
			if s.assigns != v {
				add(s.to)
			}
		}
	}
	return reached
}

// upTo returns the numbers from 0 to n-1.
func upTo(n int) []int {
	list := make([]int, n)
	for k := range list {
		list[k] = k
	}
	return list
}
