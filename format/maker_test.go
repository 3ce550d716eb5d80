package format

import (
	"math"
	"strings"

	"dataflow/api"
)

// maker makes some trees that have a text, other ones for each seed.
type maker struct{ seed uint }

// upTo returns some number from 0 to n-1.
func (m *maker) upTo(n int) int {
	m.seed = m.seed*6364136223846793005 + 1442695040888963407
	return int(m.seed >> 33 % uint(n))
}

func (m *maker) name() string {
	return []string{"a", "b2", "Node", "x_1", "classes", strings.Repeat("n", 32)}[m.upTo(6)]
}

func (m *maker) typeName() string {
	return []string{"int", "int", m.name()}[m.upTo(3)]
}

// some returns at most this many items.
func some[T any](m *maker, most int, item func() T) []T {
	var list []T
	for range m.upTo(most + 1) {
		list = append(list, item())
	}
	return list
}

func (m *maker) field() api.Field { return api.Field{Name: m.name(), Type: m.typeName()} }

// expr returns an expression of at most this depth.
func (m *maker) expr(depth int) api.Expr {
	kid := func() api.Expr { return m.expr(depth - 1) }
	kind := 1 + m.upTo(12)
	if depth == 1 {
		kind = []int{api.EInt, api.ENull, api.EVar, api.EThis, api.EInput, api.ENew}[m.upTo(6)]
	}
	switch kind {
	case api.EInt:
		return number([]int64{0, 1, -1, 10, -305, math.MaxInt64, -math.MaxInt64}[m.upTo(7)])
	case api.EVar, api.ENew:
		return api.Expr{Kind: kind, Name: m.name()}
	case api.ENull, api.EThis, api.EInput:
		return api.Expr{Kind: kind}
	case api.EField:
		return api.Expr{Kind: kind, Name: m.name(), Kids: exprs(kid())}
	case api.ECall:
		return api.Expr{Kind: kind, Name: m.name(), Kids: append(exprs(kid()), some(m, 3, kid)...)}
	case api.EStatic:
		return api.Expr{Kind: kind, Of: m.name(), Name: m.name(), Kids: some(m, 3, kid)}
	}
	return operation(int64(1+m.upTo(5)), kid(), kid())
}

// stmt returns a statement with at most this many levels of statements.
func (m *maker) stmt(levels int) api.Stmt {
	block := func() []api.Stmt {
		return some(m, min(levels, 2), func() api.Stmt { return m.stmt(levels - 1) })
	}
	s := api.Stmt{Kind: 1 + m.upTo(9)}
	value := m.expr(1 + m.upTo(4))
	switch s.Kind {
	case api.SVar:
		s.Name, s.Type, s.Exprs = m.name(), m.typeName(), exprs(value)[m.upTo(2):]
	case api.SAssign:
		s.Name, s.Exprs = m.name(), exprs(value)
	case api.SStore:
		s.Name, s.Exprs = m.name(), exprs(m.expr(3), value)
	case api.SIf:
		s.Exprs, s.Body, s.Else = exprs(value), block(), block()
	case api.SWhile:
		s.Exprs, s.Body = exprs(value), block()
	case api.STry:
		s.Name, s.Type, s.Body, s.Else = m.name(), m.typeName(), block(), block()
	case api.SThrow:
		s.Exprs = exprs(value)
	case api.SReturn:
		s.Exprs = exprs(value)[m.upTo(2):]
	case api.SCall:
		s.Exprs = exprs(api.Expr{Kind: api.ECall, Name: m.name(), Kids: exprs(value, m.expr(3))})
		if m.upTo(3) == 0 {
			s.Exprs = exprs(api.Expr{Kind: api.EStatic, Of: m.name(), Name: m.name(), Kids: exprs(value)})
		}
	}
	return s
}

func (m *maker) method() api.Method {
	d := api.Method{Name: m.name(), Static: m.upTo(2) == 0, Params: some(m, 3, m.field)}
	if m.upTo(2) == 0 {
		d.Result = m.typeName()
	}
	d.Body = some(m, 4, func() api.Stmt { return m.stmt(3) })
	return d
}

func (m *maker) class() api.Class {
	c := api.Class{Name: m.name(), Fields: some(m, 3, m.field), Methods: some(m, 4, m.method)}
	if m.upTo(2) == 0 {
		c.Super = m.name()
	}
	return c
}

func (m *maker) source() api.Source { return api.Source{Classes: some(m, 3, m.class)} }
