package interp

import (
	"slices"

	"dataflow/api"
)

// The model executes a call by calling itself, and an exception is something that a call returns. It finds classes, members and sites by counting.

type model struct {
	u       api.Unit
	input   []int64
	limit   int
	x       api.Exec
	objects []modelObject
	read    int // numbers of the input
	frames  int // that were created
}

// modelObject has all its fields from the beginning.
type modelObject struct {
	class  string
	site   int
	fields map[string]api.Val
}

// ended leaves the model when the execution ends within a call.
type ended int

// calm says that there is no exception.
const calm = -1

// modelRun returns the execution of a valid unit.
func modelRun(u api.Unit, input []int64, steps int) api.Exec {
	m := &model{u: u, input: input, limit: steps}
	m.x.End = m.whole()
	return m.x
}

// whole executes the program, and returns how it ends.
func (m *model) whole() (end int) {
	defer func() {
		if r := recover(); r != nil {
			end = int(r.(ended)) // other panics go on
		}
	}()
	if _, exception := m.call(m.u.Main, -1, 0, nil); exception != calm {
		return api.EndThrow
	}
	return api.EndReturn
}

func modelZero(typ string) api.Val {
	if typ == "int" {
		return api.Val{Kind: api.VInt}
	}
	return api.Val{Kind: api.VNull}
}

// chain returns a class and its superclasses.
func (m *model) chain(class string) []api.ClassDecl {
	var list []api.ClassDecl
	for class != "" {
		for _, c := range m.u.Hier.Classes {
			if c.Name == class {
				list = append(list, c)
			}
		}
		class = list[len(list)-1].Super
	}
	return list
}

// function returns the function of a method that a class declares, by counting the methods.
func (m *model) function(class, method string) int {
	n := 0
	for _, c := range m.u.Hier.Classes {
		for _, s := range c.Methods {
			if c.Name == class && s.Name == method {
				return n
			}
			n++
		}
	}
	panic("there is no such method")
}

// target returns the function that a call of a method executes for an object of a class.
func (m *model) target(class, method string) int {
	for _, c := range m.chain(class) {
		for _, s := range c.Methods {
			if s.Name == method {
				return m.function(c.Name, method)
			}
		}
	}
	panic("there is no such method")
}

// site returns the number of an allocation site, by counting those before it.
func (m *model) site(fn, at int) int {
	n := 0
	for k, f := range m.u.Funcs[:fn+1] {
		for p, i := range f.Code {
			if i.Op == api.INew && (k < fn || p < at) {
				n++
			}
		}
	}
	return n
}

func (m *model) create(class string, site int) api.Val {
	o := modelObject{class, site, map[string]api.Val{}}
	for _, c := range m.chain(class) {
		for _, f := range c.Fields {
			o.fields[f.Name] = modelZero(f.Type)
		}
	}
	m.objects = append(m.objects, o)
	return m.reference(len(m.objects) - 1)
}

func (m *model) reference(object int) api.Val {
	return api.Val{Kind: api.VRef, N: int64(object), Site: m.objects[object].site}
}

func modelBinary(op int64, a, b api.Val) api.Val {
	n := int64(0)
	switch {
	case op == api.OpAdd:
		n = a.N + b.N
	case op == api.OpSub:
		n = a.N - b.N
	case op == api.OpMul:
		n = a.N * b.N
	case op == api.OpLess && a.N < b.N:
		n = 1
	case op == api.OpEqual && a.Kind == b.Kind && a.N == b.N:
		n = 1
	}
	return api.Val{Kind: api.VInt, N: n}
}

// call executes a function, and returns its result, or the number of the exception that leaves it.
func (m *model) call(fn, call, depth int, args []api.Val) (result api.Val, exception int) {
	if depth == api.MaxFrames {
		panic(ended(api.EndFrames))
	}
	f := m.u.Funcs[fn]
	o := api.Obs{Func: fn, Frame: m.frames, Call: call, Vals: make([]api.Val, len(f.Vars))}
	m.frames++
	copy(o.Vals, args)
	pending := calm
	for {
		if len(m.x.Obs) == m.limit {
			panic(ended(api.EndSteps))
		}
		seen := o
		seen.Vals = slices.Clone(o.Vals)
		m.x.Obs = append(m.x.Obs, seen)
		i := f.Code[o.Instr]
		if i.Op == api.IReturn {
			return m.valueOf(f, o, i.A), calm
		}
		next, raised := m.step(f, o, i, pending, depth)
		if raised != calm {
			if i.Catch == -1 {
				return api.Val{}, raised
			}
			next = i.Catch
		}
		o.Instr, pending = next, raised
	}
}

// valueOf returns what reading a variable gives, or no value for -1.
func (m *model) valueOf(f api.Func, o api.Obs, v int) api.Val {
	if v == -1 {
		return api.Val{}
	}
	if o.Vals[v].Kind == api.VUnset {
		return modelZero(f.Vars[v].Type)
	}
	return o.Vals[v]
}

// object returns the number of the object to which a variable refers.
func (m *model) object(f api.Func, o api.Obs, v int) int {
	value := m.valueOf(f, o, v)
	if value.Kind == api.VNull {
		panic(ended(api.EndNull))
	}
	return int(value.N)
}

// step executes an instruction that is no IReturn. It returns the next one, or the exception that is raised.
func (m *model) step(f api.Func, o api.Obs, i api.Instr, pending, depth int) (next, raised int) {
	get := func(v int) api.Val { return m.valueOf(f, o, v) }
	set := func(value api.Val) (next, raised int) {
		if i.Dst != -1 {
			o.Vals[i.Dst] = value
		}
		return o.Instr + 1, calm
	}
	integer := func(n int64) (next, raised int) { return set(api.Val{Kind: api.VInt, N: n}) }
	switch i.Op {
	case api.IConst:
		return integer(i.N)
	case api.INull:
		return set(api.Val{Kind: api.VNull})
	case api.ICopy:
		return set(get(i.A))
	case api.IShift:
		return integer(get(i.A).N + i.N)
	case api.IBin:
		return set(modelBinary(i.N, get(i.A), get(i.B)))
	case api.IInput:
		m.read++
		if m.read > len(m.input) {
			return integer(0)
		}
		return integer(m.input[m.read-1])
	case api.INew:
		return set(m.create(i.Class, m.site(o.Func, o.Instr)))
	case api.ILoad:
		return set(m.objects[m.object(f, o, i.A)].fields[i.Name])
	case api.IStore:
		m.objects[m.object(f, o, i.A)].fields[i.Name] = get(i.B)
	case api.IBranch:
		if get(i.A).N != 0 {
			return i.Goto, calm
		}
	case api.IJump:
		return i.Goto, calm
	case api.IThrow:
		return 0, m.object(f, o, i.A)
	case api.ICatch:
		if slices.ContainsFunc(m.chain(m.objects[pending].class), func(c api.ClassDecl) bool { return c.Name == i.Class }) {
			return set(m.reference(pending))
		}
		return 0, pending
	case api.ICall, api.IStatic:
		result, exception := m.called(f, o, i, depth)
		if exception != calm {
			return 0, exception
		}
		return set(result)
	}
	return o.Instr + 1, calm
}

// called executes the function that a call calls.
func (m *model) called(f api.Func, o api.Obs, i api.Instr, depth int) (result api.Val, exception int) {
	var args []api.Val
	var fn int
	if i.Op == api.ICall {
		object := m.object(f, o, i.A)
		fn, args = m.target(m.objects[object].class, i.Name), []api.Val{m.reference(object)}
	} else {
		fn = m.function(i.Class, i.Name)
	}
	for _, v := range i.Args {
		args = append(args, m.valueOf(f, o, v))
	}
	return m.call(fn, len(m.x.Obs)-1, depth+1, args)
}
