package typecheck

import (
	"dataflow/api"
	"dataflow/hier"
	"dataflow/lex"
	"dataflow/limits"
)

// fault is what leaves the checker by a panic: an error and the place that was checked.
type fault struct {
	at api.Fault
	e  api.Errno
}

// caught runs a check and returns the fault that leaves it, or the zero fault.
func caught(check func()) (found fault) {
	defer func() { found, _ = recover().(fault) }()
	check()
	return fault{}
}

// checker checks a program, or an expression of it.
type checker struct {
	h      api.Hier
	at     api.Fault         // the place that is checked
	this   string            // the class of this, or empty where there is no this
	result string            // of the method
	vars   map[string]string // the types of the variables in scope
}

func newChecker(src api.Source) *checker {
	return &checker{h: hier.Of(src), at: api.Fault{Stmt: -1}, vars: map[string]string{}}
}

// accept leaves the checker with an error, if it is one.
func (c *checker) accept(e api.Errno) {
	if e != api.OK {
		panic(fault{c.at, e})
	}
}

// need leaves the checker with an error unless something holds.
func (c *checker) need(holds bool, e api.Errno) {
	if !holds {
		c.accept(e)
	}
}

// needType leaves the checker unless the types fit, as far as it tells.
func (c *checker) needType(fits bool) { c.need(fits, api.ErrType) }

func (c *checker) program(src api.Source) {
	c.hierarchy()
	c.at.Class = "Main"
	c.need(hasMain(c.h), api.ErrMain)
	for _, class := range src.Classes {
		for _, m := range class.Methods {
			c.method(class.Name, m)
		}
	}
}

// hierarchy checks the hierarchy. What follows may rely on it.
func (c *checker) hierarchy() {
	i, e := hier.Check(c.h)
	if e != api.OK && i >= 0 {
		c.at.Class = c.h.Classes[i].Name
	}
	c.accept(e)
}

// hasMain reports whether a program with this hierarchy has a beginning.
func hasMain(h api.Hier) bool {
	in, sig, found := hier.Lookup(h, "Main", "main")
	return found && in == "Main" && sig.Static && len(sig.Params) == 0 && sig.Result == none
}

func (c *checker) method(class string, m api.Method) {
	c.at = api.Fault{Class: class, Method: m.Name, Stmt: -1}
	c.this, c.result = class, m.Result
	if m.Static {
		c.this = ""
	}
	clear(c.vars)
	c.accept(limits.Stmts(m.Body...))
	c.declare(m.Params...)
	c.block(m.Body)
	c.at.Stmt = -1
	c.needType(m.Result == none || Returns(m.Body))
}

// declare checks variables and brings them into scope.
func (c *checker) declare(vars ...api.Field) {
	for _, v := range vars {
		c.fresh(v, Type)
		c.vars[v.Name] = v.Type
	}
}

// fresh checks the name of a variable that is not in scope yet, and its type by a function that tells which ones it may have.
func (c *checker) fresh(v api.Field, allowed func(h api.Hier, t string) bool) {
	_, known := c.vars[v.Name]
	c.need(lex.Ident(v.Name), api.ErrName)
	c.needType(allowed(c.h, v.Type))
	c.need(!known, api.ErrExists)
}

// variable returns the type of a variable in scope.
func (c *checker) variable(name string) string {
	typ, known := c.vars[name]
	c.need(known, api.ErrUnknown)
	return typ
}

// exprFits reports whether an expression has as many Kids as its kind.
func exprFits(e api.Expr) bool {
	count := len(e.Kids)
	switch e.Kind {
	case api.EBin:
		return count == 2
	case api.EField:
		return count == 1
	case api.ECall:
		return count >= 1
	case api.EStatic:
		return true
	}
	return count == 0
}

// stmtFits reports whether a statement has as many Exprs as its kind, and statements within it only if its kind has.
func stmtFits(s api.Stmt) bool {
	least, most := 1, 1
	switch s.Kind {
	case api.SVar, api.SReturn:
		least = 0
	case api.SStore:
		least, most = 2, 2
	case api.STry:
		least, most = 0, 0
	}
	hasElse := s.Kind == api.SIf || s.Kind == api.STry
	hasBody := hasElse || s.Kind == api.SWhile
	count := len(s.Exprs)
	return least <= count && count <= most && (hasBody || len(s.Body) == 0) && (hasElse || len(s.Else) == 0)
}

// isOperator reports whether there is an operator with this number.
func isOperator(n int64) bool { return api.OpAdd <= n && n <= api.OpEqual }

// isCall reports whether an expression may be a statement.
func isCall(e api.Expr) bool { return e.Kind == api.ECall || e.Kind == api.EStatic }
