package cfg

import (
	"slices"
	"testing"

	"dataflow/api"
	"dataflow/graph"
	"dataflow/hier"
	"dataflow/ir"
	"dataflow/lower"
	"dataflow/samples"
)

// frame is a function that is executed.
type frame struct {
	fn, at int
	vals   []api.Val
}

// object is an object of an execution.
type object struct {
	class  string
	fields map[string]api.Val
}

// machine executes a unit.
type machine struct {
	u       api.Unit
	c       *chance
	frames  []frame
	objects []object
	visit   func(fn, node int, vals []api.Val) // is called for each node that is visited
}

// top returns the latest frame.
func (m *machine) top() *frame { return &m.frames[len(m.frames)-1] }

// enter creates a frame.
func (m *machine) enter(fn int, args ...api.Val) {
	vals := make([]api.Val, len(m.u.Funcs[fn].Vars))
	copy(vals, args)
	m.frames = append(m.frames, frame{fn: fn, vals: vals})
}

// read returns what reading a variable gives.
func (m *machine) read(v int) api.Val {
	f := m.top()
	if f.vals[v].Kind == api.VUnset {
		return zero(m.u.Funcs[f.fn].Vars[v].Type)
	}
	return f.vals[v]
}

func zero(typ string) api.Val {
	if typ == "int" {
		return api.Val{Kind: api.VInt}
	}
	return api.Val{Kind: api.VNull}
}

// binary returns the result of an operator.
func binary(op int64, a, b api.Val) int64 {
	truth := map[bool]int64{true: 1}
	switch op {
	case api.OpAdd:
		return a.N + b.N
	case api.OpSub:
		return a.N - b.N
	case api.OpMul:
		return a.N * b.N
	case api.OpLess:
		return truth[a.N < b.N]
	}
	return truth[a == b]
}

// raise unwinds the frames for an exception, and reports whether one of them has a handler that receives it.
func (m *machine) raise(exception api.Val) bool {
	for len(m.frames) > 0 {
		f := m.top()
		code := m.u.Funcs[f.fn].Code
		i := code[f.at]
		if i.Catch == -1 {
			m.visit(f.fn, len(code)+1, nil)
			m.frames = m.frames[:len(m.frames)-1]
			continue
		}
		f.at = i.Catch
		m.visit(f.fn, f.at, f.vals)
		i = code[f.at]
		if hier.IsSub(m.u.Hier, m.objects[exception.N].class, i.Class) {
			f.vals[i.Dst] = exception
			f.at++
			return true
		}
	}
	return false
}

// run executes at most this many steps.
func (m *machine) run(steps int) {
	m.enter(m.u.Main)
	for range steps {
		f := m.top()
		m.visit(f.fn, f.at, f.vals)
		if !m.step(f, m.u.Funcs[f.fn].Code[f.at]) || len(m.frames) > api.MaxFrames {
			return
		}
	}
}

// step executes an instruction that is no handler, and reports whether the execution goes on.
func (m *machine) step(f *frame, i api.Instr) bool {
	next, value := f.at+1, api.Val{}
	switch i.Op {
	case api.IConst:
		value = api.Val{Kind: api.VInt, N: i.N}
	case api.INull:
		value = api.Val{Kind: api.VNull}
	case api.ICopy:
		value = m.read(i.A)
	case api.IShift:
		value = api.Val{Kind: api.VInt, N: m.read(i.A).N + i.N}
	case api.IInput:
		value = api.Val{Kind: api.VInt, N: int64(max(m.c.upTo(6)-3, 0))}
	case api.IBin:
		value = api.Val{Kind: api.VInt, N: binary(i.N, m.read(i.A), m.read(i.B))}
	case api.INew:
		value = api.Val{Kind: api.VRef, N: int64(len(m.objects))}
		m.objects = append(m.objects, object{i.Class, map[string]api.Val{}})
	case api.IBranch:
		if m.read(i.A).N != 0 {
			next = i.Goto
		}
	case api.IJump:
		next = i.Goto
	case api.IReturn:
		return m.leave(i)
	case api.IStatic:
		m.enter(ir.Find(m.u, i.Class, i.Name), m.values(i.Args)...)
		return true
	case api.ILoad, api.IStore, api.ICall, api.IThrow:
		if m.read(i.A).Kind != api.VRef {
			return false
		}
		return m.access(f, i)
	}
	if d := ir.Def(i); d >= 0 {
		f.vals[d] = value
	}
	f.at = next
	return true
}

// access executes an instruction that needs an object.
func (m *machine) access(f *frame, i api.Instr) bool {
	at := m.read(i.A)
	o := m.objects[at.N]
	switch i.Op {
	case api.IThrow:
		return m.raise(at)
	case api.ICall:
		in, _, _ := hier.Lookup(m.u.Hier, o.class, i.Name)
		m.enter(ir.Find(m.u, in, i.Name), append([]api.Val{at}, m.values(i.Args)...)...)
		return true
	case api.IStore:
		o.fields[i.Name] = m.read(i.B)
	case api.ILoad:
		_, typ, _ := hier.Field(m.u.Hier, o.class, i.Name)
		f.vals[i.Dst] = zero(typ)
		if v, found := o.fields[i.Name]; found {
			f.vals[i.Dst] = v
		}
	}
	f.at++
	return true
}

func (m *machine) values(args []int) []api.Val {
	var list []api.Val
	for _, v := range args {
		list = append(list, m.read(v))
	}
	return list
}

// leave executes a return.
func (m *machine) leave(i api.Instr) bool {
	f := m.top()
	m.visit(f.fn, len(m.u.Funcs[f.fn].Code), nil)
	var result api.Val
	if i.A >= 0 {
		result = m.read(i.A)
	}
	m.frames = m.frames[:len(m.frames)-1]
	if len(m.frames) == 0 {
		return false
	}
	f = m.top()
	if d := m.u.Funcs[f.fn].Code[f.at].Dst; d >= 0 {
		f.vals[d] = result
	}
	f.at++
	return true
}

// reachable returns whether each node of a function is reachable.
func reachable(f api.Func) []bool {
	g, _ := Graph(f)
	list := make([]bool, g.N)
	for _, node := range graph.Reach(g, 0) {
		list[node] = true
	}
	return list
}

// throwing returns statements that now and then begin with an exception, as do those within them.
func throwing(list []api.Stmt, classes []api.Class, class int) []api.Stmt {
	exception := api.Expr{Kind: api.ENew, Name: classes[class%len(classes)].Name}
	chosen := api.Expr{Kind: api.EInput}
	thrown := api.Stmt{Kind: api.SIf, Exprs: []api.Expr{chosen}, Body: []api.Stmt{{Kind: api.SThrow, Exprs: []api.Expr{exception}}}}
	all := []api.Stmt{thrown}
	for k, s := range list {
		if s.Kind == api.STry {
			s.Body = throwing(s.Body, classes, class+k)
		}
		all = append(all, s)
	}
	return all
}

func TestExecutions(t *testing.T) { // P14.5
	counts := map[string]int{}
	for seed := range uint(300) {
		src := samples.Program(seed, 1+int(seed%4))
		for k := range src.Classes {
			for n := range src.Classes[k].Methods {
				body := &src.Classes[k].Methods[n].Body
				*body = throwing(*body, src.Classes, int(seed)+n)
			}
		}
		u, e := lower.Program(src)
		if e != api.OK {
			t.Fatal(seed, int(e))
		}
		var nodes, live [][]bool
		var assigned [][][]int
		for _, f := range u.Funcs {
			nodes, live, assigned = append(nodes, reachable(f)), append(live, Live(f)), append(assigned, Assigned(f))
		}
		visit := func(fn, node int, vals []api.Val) {
			code := u.Funcs[fn].Code
			if !nodes[fn][node] || node < len(code) && !live[fn][node] {
				t.Fatalf("seed %d: node %d of function %d is visited", seed, node, fn)
			}
			if node >= len(code) {
				counts[[]string{"exit", "throw"}[node-len(code)]]++
				return
			}
			for v := u.Funcs[fn].Params; v < len(vals); v++ {
				is := slices.Contains(assigned[fn][node], v)
				if is && vals[v].Kind == api.VUnset {
					t.Fatalf("seed %d: variable %d is unset at %d of function %d", seed, v, node, fn)
				}
				if is {
					counts["assigned"]++
				}
			}
			if code[node].Op == api.ICatch {
				counts["catch"]++
			}
		}
		for input := range uint(8) {
			m := machine{u: u, c: &chance{8*seed + input}, visit: visit}
			m.run(1000)
		}
	}
	for _, kind := range []string{"exit", "throw", "catch", "assigned"} {
		if counts[kind] < 100 {
			t.Errorf("%s: %d", kind, counts[kind])
		}
	}
}
