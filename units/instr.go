package units

import (
	"math"

	"dataflow/api"
	"dataflow/hier"
)

// instruction makes instruction k of n.
func (m *maker) instruction(k, n int) api.Instr {
	if m.isHandler(k) {
		class := some(m, m.names)
		return api.Instr{Op: api.ICatch, Dst: m.to(class), Class: class}
	}
	if k == n-1 || m.isHandler(k+1) {
		return m.last(k, n)
	}
	switch m.upTo(12) {
	case 0:
		return m.constant()
	case 1:
		return m.operation()
	case 2:
		return m.copying()
	case 3:
		return m.object()
	case 4:
		return m.load()
	case 5, 6:
		return m.store()
	case 7, 8:
		return m.call(false)
	case 9:
		return m.call(true)
	case 10:
		return api.Instr{Op: api.IBranch, A: m.from("int"), Goto: m.target(k, n)}
	}
	if m.oneIn(4) {
		return m.last(k, n)
	}
	return api.Instr{Op: api.INop}
}

// last makes an instruction after which control does not go on to the next one.
func (m *maker) last(k, n int) api.Instr {
	switch m.upTo(4) {
	case 0:
		return api.Instr{Op: api.IThrow, A: m.reference()}
	case 1:
		if m.f.Result == "" {
			return api.Instr{Op: api.IReturn, A: -1}
		}
		return api.Instr{Op: api.IReturn, A: m.from(m.f.Result)}
	}
	return api.Instr{Op: api.IJump, Goto: m.target(k, n)}
}

// target returns where instruction k of n may go to, which is more often below than above.
func (m *maker) target(k, n int) int {
	low := 0
	if k < n-1 && !m.oneIn(4) {
		low = k + 1
	}
	for {
		if to := low + m.upTo(n-low); !m.isHandler(to) {
			return to
		}
	}
}

func (m *maker) constant() api.Instr {
	switch m.upTo(4) {
	case 0:
		return api.Instr{Op: api.INull, Dst: m.reference()}
	case 1:
		return api.Instr{Op: api.IConst, Dst: m.to("int"), N: some(m, []int64{0, 1, 2, -1, 7, math.MaxInt64, math.MinInt64})}
	}
	return api.Instr{Op: api.IInput, Dst: m.to("int")}
}

func (m *maker) operation() api.Instr {
	if m.oneIn(3) {
		return api.Instr{Op: api.IShift, Dst: m.to("int"), A: m.from("int"), N: some(m, []int64{0, 1, -1, 5, math.MaxInt64, math.MinInt64})}
	}
	i := api.Instr{Op: api.IBin, Dst: m.to("int"), A: m.from("int"), B: m.from("int"), N: int64(1 + m.upTo(5))}
	if i.N == api.OpEqual && !m.oneIn(3) {
		i.A, i.B = m.reference(), m.reference()
	}
	return i
}

func (m *maker) copying() api.Instr {
	a := m.upTo(len(m.f.Vars))
	return api.Instr{Op: api.ICopy, Dst: m.to(m.f.Vars[a].Type), A: a}
}

func (m *maker) object() api.Instr {
	class := some(m, m.names)
	return api.Instr{Op: api.INew, Dst: m.to(class), Class: some(m, hier.Subs(m.h, class))}
}

// access returns some field, and a variable of the class that has it. Some hierarchies have no fields.
func (m *maker) access() (field member, of int, found bool) {
	references := !m.oneIn(3)
	field, found = fitting(m, m.fields, func(f member) bool { return !references || f.typ != "int" })
	of, _ = m.variable(func(typ string) bool { return typ == field.class })
	return field, of, found
}

func (m *maker) load() api.Instr {
	field, of, found := m.access()
	if !found {
		return m.object()
	}
	return api.Instr{Op: api.ILoad, Dst: m.to(field.typ), A: of, Name: field.name}
}

func (m *maker) store() api.Instr {
	field, of, found := m.access()
	if !found {
		return m.object()
	}
	return api.Instr{Op: api.IStore, A: of, B: m.from(field.typ), Name: field.name}
}

// call makes a call of a static method, or of one that is not, if there is one to call.
func (m *maker) call(static bool) api.Instr {
	i := api.Instr{Op: api.ICall, A: m.reference()}
	typ := m.f.Vars[i.A].Type
	if static {
		i = api.Instr{Op: api.IStatic}
	}
	callee, found := fitting(m, m.methods, func(c member) bool {
		if c.sig.Static {
			return static && c.in == c.class && !(c.name == "main" && m.oneIn(2))
		}
		return !static && c.class == typ
	})
	if !found {
		return m.object()
	}
	i.Class, i.Name, i.Dst = callee.class, callee.name, -1
	for _, p := range callee.sig.Params {
		i.Args = append(i.Args, m.from(p))
	}
	if callee.sig.Result != "" && !m.oneIn(3) {
		i.Dst = m.to(callee.sig.Result)
	}
	return i
}
