// Package units makes units for the tests of the layers. They are valid, and other ones for each seed. Unlike the units of programs they have handlers that share instructions, jumps into and out of loops and handlers, and null variables that are used again.
package units

import (
	"slices"
	"strconv"

	"dataflow/api"
	"dataflow/hier"
	"dataflow/lower"
	"dataflow/samples"
)

// Unit returns a unit with the classes and methods of a sample.
func Unit(seed uint) api.Unit {
	// A sample is well typed and small, so that there is no error.
	u, _ := lower.Program(samples.Program(seed, 1))
	m := &maker{seed: seed + 1, h: u.Hier}
	m.collect()
	for k := range u.Funcs {
		m.f = &u.Funcs[k]
		m.variables()
		m.code()
	}
	return u
}

// maker makes the functions of a unit.
type maker struct {
	seed     uint
	h        api.Hier
	names    []string // of the classes
	fields   []member // of all classes, with those that they inherit
	methods  []member // likewise
	f        *api.Func
	handlers []int // of the function
}

// member is a field or a method of a class, perhaps from a superclass, which is in then.
type member struct {
	class, in, name string
	typ             string
	sig             api.Sig
}

// upTo returns some number from 0 to n-1.
func (m *maker) upTo(n int) int {
	m.seed = m.seed*6364136223846793005 + 1442695040888963407
	return int(m.seed >> 33 % uint(n))
}

// oneIn tells one time in n that something is so.
func (m *maker) oneIn(n int) bool { return m.upTo(n) == 0 }

// some returns some item of a list.
func some[T any](m *maker, list []T) T { return list[m.upTo(len(list))] }

// fitting returns some item of a list that fits, if there is one.
func fitting[T any](m *maker, list []T, fits func(T) bool) (item T, found bool) {
	list = slices.DeleteFunc(slices.Clone(list), func(item T) bool { return !fits(item) })
	if len(list) == 0 {
		return item, false
	}
	return some(m, list), true
}

// collect keeps what the instructions may use.
func (m *maker) collect() {
	for _, c := range m.h.Classes {
		m.names = append(m.names, c.Name)
	}
	for _, c := range m.names {
		for _, in := range hier.Supers(m.h, c) {
			decl := m.h.Classes[hier.Find(m.h, in)]
			for _, f := range decl.Fields {
				m.fields = append(m.fields, member{class: c, in: in, name: f.Name, typ: f.Type})
			}
			for _, s := range decl.Methods {
				m.methods = append(m.methods, member{class: c, in: in, name: s.Name, sig: s})
			}
		}
	}
}

// fits reports whether a variable of a type may be assigned to one of another type.
func (m *maker) fits(from, to string) bool {
	return from == to || from == "null" && to != "int" || hier.IsSub(m.h, from, to)
}

// variables gives the function local variables, at least one of each type.
func (m *maker) variables() {
	m.f.Vars = slices.Clone(m.f.Vars[:m.f.Params])
	types := append([]string{"int", "int", "null"}, m.names...)
	for k := range len(types) + m.upTo(4) {
		typ := some(m, types)
		if k < len(types) {
			typ = types[k]
		}
		m.f.Vars = append(m.f.Vars, api.Field{Name: "$" + strconv.Itoa(k), Type: typ})
	}
}

// variable returns some variable whose type fits, if there is one.
func (m *maker) variable(fits func(typ string) bool) (int, bool) {
	var list []int
	for v, f := range m.f.Vars {
		if fits(f.Type) {
			list = append(list, v)
		}
	}
	if len(list) == 0 {
		return 0, false
	}
	return some(m, list), true
}

// to returns some variable to which one of a type may be assigned. There is always one.
func (m *maker) to(typ string) int {
	v, _ := m.variable(func(to string) bool { return m.fits(typ, to) })
	return v
}

// from returns some variable that may be assigned to one of a type. There is always one.
func (m *maker) from(typ string) int {
	v, _ := m.variable(func(from string) bool { return m.fits(from, typ) })
	return v
}

// reference returns some variable that is no integer. There is always one.
func (m *maker) reference() int {
	v, _ := m.variable(func(typ string) bool { return typ != "int" })
	return v
}

// code makes the instructions of the function, which begin with objects for most of its variables.
func (m *maker) code() {
	m.f.Code, m.handlers = nil, nil
	var start []api.Instr
	for v := m.f.Params; v < len(m.f.Vars); v++ {
		if typ := m.f.Vars[v].Type; typ != "int" && typ != "null" && !m.oneIn(8) {
			start = append(start, api.Instr{Op: api.INew, Dst: v, Class: some(m, hier.Subs(m.h, typ))})
		}
	}
	for range m.upTo(5) {
		start = append(start, m.store())
	}
	n := len(start) + 5 + m.upTo(20)
	// No handler follows another one, and none is the last instruction.
	for k := len(start) + 1; k < n-1; k++ {
		if m.oneIn(5) && !m.isHandler(k-1) {
			m.handlers = append(m.handlers, k)
		}
	}
	for k := range n {
		i := api.Instr{}
		if k < len(start) {
			i = start[k]
		} else {
			i = m.instruction(k, n)
		}
		i.Catch = -1
		if len(m.handlers) > 0 && !m.oneIn(3) {
			i.Catch = some(m, m.handlers)
		}
		m.f.Code = append(m.f.Code, i)
	}
}

// isHandler reports whether the function has a handler at a place.
func (m *maker) isHandler(k int) bool { return slices.Contains(m.handlers, k) }
