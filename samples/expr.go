package samples

import (
	"math"
	"slices"

	"dataflow/api"
)

// expr makes an expression of at most this depth that is assignable to a type.
func (m *maker) expr(typ string, depth int) api.Expr {
	forms := []func(string, int) (api.Expr, bool){m.variable, m.variable, m.load, m.call, m.staticCall}
	if depth > 1 {
		if e, found := some(m, forms)(typ, depth); found {
			return e
		}
	}
	if e, found := m.variable(typ, depth); found && m.oneIn(2) {
		return e
	}
	if typ == "int" {
		return m.integer(depth)
	}
	if m.oneIn(8) {
		return api.Expr{Kind: api.ENull}
	}
	return api.Expr{Kind: api.ENew, Name: some(m, m.subs[typ])}
}

// integer makes an expression for an integer.
func (m *maker) integer(depth int) api.Expr {
	switch kind := m.upTo(5); {
	case kind == 0:
		return api.Expr{Kind: api.EInput}
	case kind > 2 && depth > 1:
		return m.operation(depth)
	}
	return api.Expr{Kind: api.EInt, N: some(m, []int64{0, 1, 2, 3, -1, 7, math.MaxInt64})}
}

func (m *maker) operation(depth int) api.Expr {
	op := 1 + m.upTo(5)
	e := api.Expr{Kind: api.EBin, N: int64(op), Kids: []api.Expr{m.expr("int", depth-1), m.expr("int", depth-1)}}
	if op == api.OpEqual && m.oneIn(2) {
		return m.comparison(e, depth)
	}
	return e
}

// comparison makes a comparison of references of another one. Two classes without a relation may not be compared.
func (m *maker) comparison(e api.Expr, depth int) api.Expr {
	class := some(m, m.names)
	e.Kids[0], e.Kids[1] = m.expr(class, depth-1), api.Expr{Kind: api.ENull}
	for _, v := range m.scope {
		if v.Type == class && v.Name != "this" && !m.oneIn(3) {
			e.Kids[1] = api.Expr{Kind: api.EVar, Name: v.Name}
		}
	}
	if m.oneIn(2) {
		e.Kids[0], e.Kids[1] = e.Kids[1], e.Kids[0]
	}
	return e
}

// assignable reports whether a value of a type may be assigned to another one, neither of which is that of null.
func (m *maker) assignable(from, to string) bool {
	return from == to || slices.Contains(m.supers[from], to)
}

// variable makes a variable in scope or this.
func (m *maker) variable(typ string, _ int) (api.Expr, bool) {
	var list []api.Expr
	for _, v := range m.scope {
		e := api.Expr{Kind: api.EVar, Name: v.Name}
		if v.Name == "this" {
			e = api.Expr{Kind: api.EThis}
		}
		if m.assignable(v.Type, typ) {
			list = append(list, e)
		}
	}
	if len(list) == 0 {
		return api.Expr{}, false
	}
	return some(m, list), true
}

// fitting returns the items of a list that fit.
func fitting[T any](list []T, fits func(T) bool) []T {
	return slices.DeleteFunc(slices.Clone(list), func(item T) bool { return !fits(item) })
}

func (m *maker) load(typ string, depth int) (api.Expr, bool) {
	list := fitting(m.fields, func(f member) bool { return m.assignable(f.field.Type, typ) })
	if len(list) == 0 {
		return api.Expr{}, false
	}
	of := some(m, list)
	return api.Expr{Kind: api.EField, Name: of.field.Name, Kids: []api.Expr{m.object(of.class, depth-1)}}, true
}

// object makes an expression for an object of a class, which is not null itself.
func (m *maker) object(class string, depth int) api.Expr {
	for {
		if e := m.expr(class, depth); e.Kind != api.ENull {
			return e
		}
	}
}

func (m *maker) call(typ string, depth int) (api.Expr, bool) { return m.callFor(typ, false, depth) }

func (m *maker) staticCall(typ string, depth int) (api.Expr, bool) {
	return m.callFor(typ, true, depth)
}

// callFor makes a call whose result is assignable to a type.
func (m *maker) callFor(typ string, static bool, depth int) (api.Expr, bool) {
	of, found := m.callee(static, func(s api.Sig) bool { return s.Result != "" && m.assignable(s.Result, typ) })
	if !found {
		return api.Expr{}, false
	}
	return m.callOf(of, depth), true
}

// callOf makes a call of a method.
func (m *maker) callOf(of callee, depth int) api.Expr {
	e := api.Expr{Kind: api.ECall, Name: of.sig.Name}
	if of.sig.Static {
		e.Kind, e.Of = api.EStatic, of.class
	} else {
		e.Kids = append(e.Kids, m.object(of.class, depth-1))
	}
	for _, typ := range of.sig.Params {
		e.Kids = append(e.Kids, m.expr(typ, depth-1))
	}
	return e
}

// callee finds a method that fits.
func (m *maker) callee(static bool, fits func(api.Sig) bool) (callee, bool) {
	list := fitting(m.calls, func(of callee) bool { return of.sig.Static == static && fits(of.sig) })
	if len(list) == 0 {
		return callee{}, false
	}
	return some(m, list), true
}
