package cfg

import (
	"slices"

	"dataflow/api"
)

// The model follows paths edge by edge, by the words of the chapter.

// link is an edge of the model: its ends, and the variable that a normal edge has from its instruction, or -1.
type link struct{ from, to, def int }

// writes returns the variable that an instruction assigns, or -1.
func writes(i api.Instr) int {
	switch i.Op {
	case api.IConst, api.INull, api.ICopy, api.IBin, api.IInput, api.INew, api.ILoad, api.ICall, api.IStatic, api.IShift, api.ICatch:
		return i.Dst
	}
	return -1
}

// readsOf returns the variables that an instruction reads.
func readsOf(i api.Instr) []int {
	switch i.Op {
	case api.ICopy, api.ILoad, api.IBranch, api.IThrow, api.IShift, api.IReturn:
		return []int{i.A}
	case api.IBin, api.IStore:
		return []int{i.A, i.B}
	case api.ICall:
		return append([]int{i.A}, i.Args...)
	case api.IStatic:
		return i.Args
	}
	return nil
}

// links returns the edges of a function, normal ones and exceptional ones.
func links(f api.Func) []link {
	n := len(f.Code)
	var list []link
	for k, i := range f.Code {
		var next []int
		switch i.Op {
		case api.IJump:
			next = []int{i.Goto}
		case api.IBranch:
			next = []int{k + 1, i.Goto}
		case api.IReturn:
			next = []int{n}
		case api.IThrow:
		default:
			next = []int{k + 1}
		}
		for _, to := range next {
			list = append(list, link{k, to, writes(i)})
		}
		if slices.Contains([]int{api.ICall, api.IStatic, api.IThrow, api.ICatch}, i.Op) {
			to := i.Catch
			if to == -1 {
				to = n + 1
			}
			list = append(list, link{k, to, -1})
		}
	}
	return list
}

// isClosed is the definition.
func isClosed(f api.Func) bool {
	n := len(f.Code)
	ok := n <= api.MaxCode
	for _, i := range f.Code {
		if i.Op == api.IBranch || i.Op == api.IJump {
			ok = ok && 0 <= i.Goto && i.Goto <= n-1
		}
		ok = ok && -1 <= i.Catch && i.Catch <= n-1
	}
	if n > 0 {
		last := f.Code[n-1].Op
		ok = ok && (last == api.IJump || last == api.IReturn || last == api.IThrow)
	}
	return ok
}

// paths calls a function with each path from a node that comes to no node twice, as the list of its edges. Where there is a path to a node that avoids edges or nodes, one of these does, too.
func paths(list []link, from int, each func(to int, path []link)) {
	var path []link
	visited := map[int]bool{}
	var visit func(node int)
	visit = func(node int) {
		visited[node] = true
		each(node, path)
		for _, l := range list {
			if l.from == node && !visited[l.to] {
				path = append(path, l)
				visit(l.to)
				path = path[:len(path)-1]
			}
		}
		visited[node] = false
	}
	visit(from)
}

// facts are what the model tells of a function.
type facts struct {
	live     []bool
	heads    []int
	assigned [][]int
	liveness [][]int
}

func factsOf(f api.Func) facts {
	n, list := len(f.Code), links(f)
	m := facts{live: make([]bool, n), assigned: make([][]int, n), liveness: make([][]int, n)}
	without := map[[2]int]bool{} // the nodes to which a path leads that does not assign a variable
	around := map[[2]int]bool{}  // the nodes to which a path leads that does not contain a node
	if n > 0 {
		paths(list, 0, func(to int, path []link) {
			if to < n {
				m.live[to] = true
			}
			for v := range f.Vars {
				if !slices.ContainsFunc(path, func(l link) bool { return l.def == v }) {
					without[[2]int{v, to}] = true
				}
			}
			for h := range n {
				if h != 0 && !slices.ContainsFunc(path, func(l link) bool { return l.to == h }) {
					around[[2]int{h, to}] = true
				}
			}
		})
	}
	for h := range n {
		for _, l := range list {
			if l.to == h && m.live[l.from] && !around[[2]int{h, l.from}] {
				m.heads = append(m.heads, h)
				break
			}
		}
	}
	for i := range n {
		for v := range f.Vars {
			if !m.live[i] || v < f.Params || !without[[2]int{v, i}] {
				m.assigned[i] = append(m.assigned[i], v)
			}
			if isRead(f, list, i, v) {
				m.liveness[i] = append(m.liveness[i], v)
			}
		}
	}
	return m
}

// isRead reports whether a variable may be read later.
func isRead(f api.Func, list []link, i, v int) bool {
	read := false
	paths(list, i, func(to int, path []link) {
		if to < len(f.Code) && slices.Contains(readsOf(f.Code[to]), v) && !slices.ContainsFunc(path, func(l link) bool { return l.def == v }) {
			read = true
		}
	})
	return read
}

// sortedEdges returns the edges of the graph of a function.
func sortedEdges(f api.Func) []api.Edge {
	var edges []api.Edge
	for from := range f.Code {
		for to := range len(f.Code) + 2 {
			if slices.ContainsFunc(links(f), func(l link) bool { return l.from == from && l.to == to }) {
				edges = append(edges, api.Edge{From: from, To: to})
			}
		}
	}
	return edges
}
