package samples

import (
	"strconv"

	"dataflow/api"
)

// depth is the greatest depth of the expressions of statements.
const depth = 4

// block makes statements with at most this many levels of statements within them.
func (m *maker) block(levels int) []api.Stmt {
	outer := len(m.scope)
	var list []api.Stmt
	for range 1 + m.upTo(m.size) {
		list = append(list, m.stmts(levels)...)
	}
	m.scope = m.scope[:outer]
	return list
}

// stmts makes a statement, or a few that belong together.
func (m *maker) stmts(levels int) []api.Stmt {
	kind := 1 + m.upTo(16)
	if levels == 0 && (kind == api.SIf || kind == api.SWhile || kind == api.STry) {
		kind = api.SVar
	}
	switch kind {
	case api.SIf:
		s := api.Stmt{Kind: kind, Exprs: []api.Expr{m.expr("int", depth)}, Body: m.block(levels - 1)}
		if m.oneIn(2) {
			s.Else = m.block(levels - 1)
		}
		return []api.Stmt{s}
	case api.SWhile:
		return m.loop(levels)
	case api.STry:
		return []api.Stmt{m.try(levels)}
	case api.SThrow:
		if m.oneIn(4) {
			return []api.Stmt{{Kind: kind, Exprs: []api.Expr{m.expr(some(m, m.names), depth)}}}
		}
	case api.SReturn:
		if m.oneIn(6) {
			return []api.Stmt{m.returning()}
		}
	case api.SCall, 10, 11:
		return m.callStmt()
	case api.SStore, 12:
		return m.store()
	case api.SAssign, 13:
		return m.assignment()
	}
	return []api.Stmt{m.declaration()}
}

// declare returns a new variable of a type, and brings it into scope. Its name may be that of one in another block.
func (m *maker) declare(typ string) api.Field {
	name := "x" + strconv.Itoa(len(m.scope))
	if m.oneIn(2) {
		m.locals++
		name = "y" + strconv.Itoa(m.locals)
	}
	v := api.Field{Name: name, Type: typ}
	m.scope = append(m.scope, v)
	return v
}

func (m *maker) declaration() api.Stmt {
	typ := m.typ()
	value := []api.Expr{m.expr(typ, depth)}
	if m.oneIn(6) {
		value = nil
	}
	v := m.declare(typ)
	return api.Stmt{Kind: api.SVar, Name: v.Name, Type: v.Type, Exprs: value}
}

func (m *maker) assignment() []api.Stmt {
	if len(m.scope) == 0 {
		return nil
	}
	v := some(m, m.scope)
	if v.Name == "this" {
		return nil
	}
	return []api.Stmt{assign(v.Name, m.expr(v.Type, depth))}
}

func assign(name string, value api.Expr) api.Stmt {
	return api.Stmt{Kind: api.SAssign, Name: name, Exprs: []api.Expr{value}}
}

// store makes an assignment to a field, if there is one.
func (m *maker) store() []api.Stmt {
	if len(m.fields) == 0 {
		return nil
	}
	of := some(m, m.fields)
	exprs := []api.Expr{m.object(of.class, depth), m.expr(of.field.Type, depth)}
	return []api.Stmt{{Kind: api.SStore, Name: of.field.Name, Exprs: exprs}}
}

// loop makes a loop that mostly ends, because it counts.
func (m *maker) loop(levels int) []api.Stmt {
	if m.oneIn(6) {
		return []api.Stmt{{Kind: api.SWhile, Exprs: []api.Expr{m.expr("int", depth)}, Body: m.block(levels - 1)}}
	}
	m.loops++
	counter := api.Expr{Kind: api.EVar, Name: "i" + strconv.Itoa(m.loops)}
	binary := func(op, n int64) api.Expr {
		return api.Expr{Kind: api.EBin, N: op, Kids: []api.Expr{counter, {Kind: api.EInt, N: n}}}
	}
	m.scope = append(m.scope, api.Field{Name: counter.Name, Type: "int"})
	start := api.Stmt{Kind: api.SVar, Name: counter.Name, Type: "int", Exprs: []api.Expr{{Kind: api.EInt}}}
	body := append(m.block(levels-1), assign(counter.Name, binary(api.OpAdd, 1)))
	return []api.Stmt{start, {Kind: api.SWhile, Exprs: []api.Expr{binary(api.OpLess, int64(m.upTo(4)))}, Body: body}}
}

func (m *maker) try(levels int) api.Stmt {
	s := api.Stmt{Kind: api.STry, Body: m.block(levels - 1)}
	outer := len(m.scope)
	v := m.declare(some(m, m.names))
	s.Name, s.Type, s.Else = v.Name, v.Type, m.block(levels-1)
	m.scope = m.scope[:outer]
	return s
}

func (m *maker) returning() api.Stmt {
	s := api.Stmt{Kind: api.SReturn}
	if m.result != "" {
		s.Exprs = []api.Expr{m.expr(m.result, depth)}
	}
	return s
}

// callStmt makes a call, if there is a method to call. It rarely begins the program again.
func (m *maker) callStmt() []api.Stmt {
	of, found := m.callee(m.oneIn(3), func(s api.Sig) bool { return s.Name != "main" || m.oneIn(20) })
	if !found {
		return nil
	}
	return []api.Stmt{{Kind: api.SCall, Exprs: []api.Expr{m.callOf(of, depth)}}}
}
