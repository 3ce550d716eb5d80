package typecheck

import (
	"maps"

	"dataflow/api"
)

// block checks statements, at the beginning of which some variables are declared. Those that are declared in it are in scope until its end.
func (c *checker) block(stmts []api.Stmt, vars ...api.Field) {
	outer := c.vars
	c.vars = maps.Clone(outer)
	for _, v := range vars {
		c.vars[v.Name] = v.Type
	}
	for _, s := range stmts {
		c.stmt(s)
	}
	c.vars = outer
}

func (c *checker) stmt(s api.Stmt) {
	c.at.Stmt++
	c.need(api.SVar <= s.Kind && s.Kind <= api.SCall, api.ErrKind)
	c.need(stmtFits(s), api.ErrInvalid)
	switch s.Kind {
	case api.SVar:
		c.declaration(s)
	case api.SAssign:
		c.value(s.Exprs[0], c.variable(s.Name))
	case api.SStore:
		c.value(s.Exprs[1], c.field(s.Exprs[0], s.Name))
	case api.SIf, api.SWhile:
		c.value(s.Exprs[0], integer)
		c.block(s.Body)
		c.block(s.Else)
	case api.STry:
		c.try(s)
	case api.SThrow:
		thrown := c.expr(s.Exprs[0])
		c.needType(thrown == null || isClass(c.h, thrown))
	case api.SReturn:
		c.returned(s.Exprs)
	case api.SCall:
		c.need(isCall(s.Exprs[0]), api.ErrKind)
		c.expr(s.Exprs[0])
	}
}

// declaration checks a declaration. The variable is not in scope within its initial value.
func (c *checker) declaration(s api.Stmt) {
	v := api.Field{Name: s.Name, Type: s.Type}
	c.fresh(v, Type)
	for _, e := range s.Exprs {
		c.value(e, s.Type)
	}
	c.vars[s.Name] = s.Type
}

// try checks a statement that catches. The variable of its catch may have a name that is declared in the body.
func (c *checker) try(s api.Stmt) {
	caught := api.Field{Name: s.Name, Type: s.Type}
	c.fresh(caught, isClass)
	c.block(s.Body)
	c.block(s.Else, caught)
}

// returned checks what a statement returns, if it is not empty.
func (c *checker) returned(exprs []api.Expr) {
	c.need((len(exprs) == 0) == (c.result == none), api.ErrArity)
	for _, e := range exprs {
		c.value(e, c.result)
	}
}
