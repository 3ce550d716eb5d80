package interp

import (
	"slices"

	"dataflow/api"
	"dataflow/hier"
	"dataflow/ir"
)

// machine executes a valid unit.
type machine struct {
	u         api.Unit
	input     []int64 // what is left of it
	sites     map[place]int
	objects   map[int64]object // by their numbers
	frames    []api.Obs        // those that exist, each as its next step will be recorded; a caller stays at its call
	created   int              // the number of all frames so far
	exception api.Val          // for the handler that is executed next
	exec      api.Exec         // its End is 0 as long as the execution goes on
}

// place is an instruction of a unit.
type place struct{ fn, at int }

// object is an object with those of its fields to which something was stored.
type object struct {
	class  string
	fields map[string]api.Val
}

// sitesOf numbers the allocation sites of a unit.
func sitesOf(u api.Unit) map[place]int {
	sites := map[place]int{}
	for fn, f := range u.Funcs {
		for at, i := range f.Code {
			if i.Op == api.INew {
				sites[place{fn, at}] = len(sites)
			}
		}
	}
	return sites
}

func (m *machine) run(steps int) {
	m.enter(m.u.Main, -1)
	for m.exec.End == 0 {
		if len(m.exec.Obs) == steps {
			m.exec.End = api.EndSteps
			return
		}
		m.record()
		m.step()
	}
}

// latest returns the latest frame.
func (m *machine) latest() *api.Obs { return &m.frames[len(m.frames)-1] }

// instruction returns the instruction of the latest frame.
func (m *machine) instruction() api.Instr {
	f := m.latest()
	return m.u.Funcs[f.Func].Code[f.Instr]
}

func (m *machine) record() {
	o := *m.latest()
	o.Vals = slices.Clone(o.Vals)
	m.exec.Obs = append(m.exec.Obs, o)
}

// step executes the instruction of the latest frame.
func (m *machine) step() {
	i := m.instruction()
	if needsObject(i.Op) && m.read(i.A).Kind == api.VNull {
		m.exec.End = api.EndNull
		return
	}
	switch i.Op {
	case api.IBranch:
		if m.read(i.A).N == 0 {
			m.finish(api.Val{})
			break
		}
		fallthrough
	case api.IJump:
		m.latest().Instr = i.Goto
	case api.ICall:
		m.call(Dispatch(m.u, m.object(i.A).class, i.Name), append([]int{i.A}, i.Args...))
	case api.IStatic:
		m.call(ir.Find(m.u, i.Class, i.Name), i.Args)
	case api.IReturn:
		m.leave(i)
	case api.IThrow:
		m.exception = m.read(i.A)
		m.raise()
	case api.ICatch:
		if !hier.IsSub(m.u.Hier, m.objects[m.exception.N].class, i.Class) {
			m.raise()
			break
		}
		m.finish(m.exception)
	default:
		m.finish(m.result(i))
	}
}

// needsObject reports whether the operand A of an operation must not be null.
func needsObject(op int) bool {
	switch op {
	case api.ILoad, api.IStore, api.ICall, api.IThrow:
		return true
	}
	return false
}

// result executes an instruction after which execution goes on with the next one, and returns what its variable becomes, if it has one.
func (m *machine) result(i api.Instr) api.Val {
	switch i.Op {
	case api.IConst:
		return integer(i.N)
	case api.INull:
		return api.Val{Kind: api.VNull}
	case api.ICopy:
		return m.read(i.A)
	case api.IBin:
		return integer(m.binary(i))
	case api.IShift:
		return integer(m.read(i.A).N + i.N)
	case api.IInput:
		return integer(m.next())
	case api.INew:
		return m.create(i.Class)
	case api.ILoad:
		return m.load(i)
	case api.IStore:
		m.object(i.A).fields[i.Name] = m.read(i.B)
	}
	return api.Val{}
}

// finish gives the variable of the instruction its value, if it has a variable, and goes on with the next instruction.
func (m *machine) finish(value api.Val) {
	f := m.latest()
	if dst := ir.Def(m.instruction()); dst != -1 {
		f.Vals[dst] = value
	}
	f.Instr++
}

func integer(n int64) api.Val { return api.Val{Kind: api.VInt, N: n} }

// initial returns what a variable or field of a type is before something is assigned to it.
func initial(typ string) api.Val {
	if typ == "int" {
		return integer(0)
	}
	return api.Val{Kind: api.VNull}
}

// typeOf returns the type of a variable of the latest frame.
func (m *machine) typeOf(v int) string { return m.u.Funcs[m.latest().Func].Vars[v].Type }

// read returns what reading a variable of the latest frame gives.
func (m *machine) read(v int) api.Val {
	value := m.latest().Vals[v]
	if value.Kind == api.VUnset {
		return initial(m.typeOf(v))
	}
	return value
}

// object returns the object to which a variable of the latest frame refers.
func (m *machine) object(v int) object { return m.objects[m.read(v).N] }

// binary returns the result of an operator on two integers or two references.
func (m *machine) binary(i api.Instr) int64 {
	a, b := m.read(i.A), m.read(i.B)
	if a.Kind != api.VInt {
		return truth(a == b)
	}
	n, _ := Bin(int(i.N), a.N, b.N)
	return n
}

// next takes a number from the input.
func (m *machine) next() int64 {
	if len(m.input) == 0 {
		return 0
	}
	n := m.input[0]
	m.input = m.input[1:]
	return n
}

// create makes an object of a class, and returns a reference to it.
func (m *machine) create(class string) api.Val {
	f := m.latest()
	n := int64(len(m.objects))
	m.objects[n] = object{class, map[string]api.Val{}}
	return api.Val{Kind: api.VRef, N: n, Site: m.sites[place{f.Func, f.Instr}]}
}

// load returns the field that an ILoad reads.
func (m *machine) load(i api.Instr) api.Val {
	if value, stored := m.object(i.A).fields[i.Name]; stored {
		return value
	}
	// The field is an integer exactly if the variable that it is assigned to is one.
	return initial(m.typeOf(i.Dst))
}
