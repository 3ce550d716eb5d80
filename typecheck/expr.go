package typecheck

import (
	"dataflow/api"
	"dataflow/hier"
)

// expr checks an expression and returns its type.
func (c *checker) expr(e api.Expr) string {
	c.need(api.EInt <= e.Kind && e.Kind <= api.EStatic, api.ErrKind)
	c.need(e.Kind != api.EBin || isOperator(e.N), api.ErrKind)
	c.need(exprFits(e), api.ErrInvalid)
	switch e.Kind {
	case api.ENull:
		return null
	case api.EVar:
		return c.variable(e.Name)
	case api.EThis:
		c.need(c.this != "", api.ErrUnknown)
		return c.this
	case api.EBin:
		return c.operation(e)
	case api.ENew:
		c.need(isClass(c.h, e.Name), api.ErrUnknown)
		return e.Name
	case api.EField:
		return c.field(e.Kids[0], e.Name)
	case api.ECall:
		return c.call(e)
	case api.EStatic:
		return c.staticCall(e)
	}
	return integer
}

// value checks an expression whose value is assigned to a type.
func (c *checker) value(e api.Expr, to string) {
	from := c.expr(e)
	c.needType(Assignable(c.h, from, to))
}

// object checks an expression whose value is an object, and returns its class.
func (c *checker) object(e api.Expr) string {
	class := c.expr(e)
	c.needType(isClass(c.h, class))
	return class
}

// field checks an object and the name of one of its fields, and returns the type of the field.
func (c *checker) field(object api.Expr, name string) string {
	_, typ, found := hier.Field(c.h, c.object(object), name)
	c.need(found, api.ErrUnknown)
	return typ
}

func (c *checker) operation(e api.Expr) string {
	a, b := c.expr(e.Kids[0]), c.expr(e.Kids[1])
	integers := a == integer && b == integer
	c.needType(integers || e.N == api.OpEqual && c.comparable(a, b))
	return integer
}

// comparable reports whether two types, not both "int", are those of references that may be equal. "int" is assignable to no other type, and no other type to it.
func (c *checker) comparable(a, b string) bool {
	return a == null && b == null || Assignable(c.h, a, b) || Assignable(c.h, b, a)
}

func (c *checker) call(e api.Expr) string {
	_, sig, found := hier.Lookup(c.h, c.object(e.Kids[0]), e.Name)
	c.need(found && !sig.Static, api.ErrUnknown)
	return c.arguments(sig, e.Kids[1:])
}

func (c *checker) staticCall(e api.Expr) string {
	_, sig, found := hier.Lookup(c.h, e.Of, e.Name)
	c.need(found && sig.Static, api.ErrUnknown)
	return c.arguments(sig, e.Kids)
}

// arguments checks the arguments of a call, and returns the type of its result.
func (c *checker) arguments(sig api.Sig, args []api.Expr) string {
	c.need(len(args) == len(sig.Params), api.ErrArity)
	for i, arg := range args {
		c.value(arg, sig.Params[i])
	}
	return sig.Result
}
