package parse

import "dataflow/api"

func (p *parser) program() api.Source {
	var src api.Source
	for !p.atEnd() {
		src.Classes = append(src.Classes, p.class())
	}
	return src
}

func (p *parser) class() api.Class {
	p.need("class")
	c := api.Class{Name: p.name()}
	if p.take("extends") {
		c.Super = p.name()
	}
	p.need("{")
	for p.is("var") {
		c.Fields = append(c.Fields, p.field())
	}
	for !p.take("}") {
		c.Methods = append(c.Methods, p.method())
	}
	return c
}

func (p *parser) field() api.Field {
	p.need("var")
	f := p.typed()
	p.need(";")
	return f
}

func (p *parser) method() api.Method {
	m := api.Method{Static: p.take("static")}
	p.need("def")
	m.Name = p.name()
	m.Params = list(p, p.typed)
	if p.take(":") {
		m.Result = p.typeName()
	}
	m.Body = p.block()
	return m
}

// typed reads NAME ":" type.
func (p *parser) typed() api.Field {
	f := api.Field{Name: p.name()}
	p.need(":")
	f.Type = p.typeName()
	return f
}

// typeName reads a type.
func (p *parser) typeName() string {
	if p.take("int") {
		return "int"
	}
	return p.name()
}

func (p *parser) block() []api.Stmt {
	p.need("{")
	var stmts []api.Stmt
	for !p.take("}") {
		stmts = append(stmts, p.stmt())
	}
	return stmts
}

func (p *parser) stmt() api.Stmt {
	switch {
	case p.take("var"):
		return p.declaration()
	case p.take("if"):
		return p.branch()
	case p.take("while"):
		return api.Stmt{Kind: api.SWhile, Exprs: p.condition(), Body: p.block()}
	case p.take("try"):
		return p.attempt()
	case p.take("throw"):
		return p.ended(api.Stmt{Kind: api.SThrow, Exprs: []api.Expr{p.expr()}})
	case p.take("return"):
		s := api.Stmt{Kind: api.SReturn}
		if !p.is(";") {
			s.Exprs = []api.Expr{p.expr()}
		}
		return p.ended(s)
	}
	return p.action()
}

// ended reads the ";" after a statement.
func (p *parser) ended(s api.Stmt) api.Stmt {
	p.need(";")
	return s
}

// declaration reads what follows a "var" that begins a statement.
func (p *parser) declaration() api.Stmt {
	f := p.typed()
	s := api.Stmt{Kind: api.SVar, Name: f.Name, Type: f.Type}
	if p.take("=") {
		s.Exprs = []api.Expr{p.expr()}
	}
	return p.ended(s)
}

// condition reads "(" expr ")".
func (p *parser) condition() []api.Expr {
	p.need("(")
	e := p.expr()
	p.need(")")
	return []api.Expr{e}
}

// branch reads what follows an "if".
func (p *parser) branch() api.Stmt {
	s := api.Stmt{Kind: api.SIf, Exprs: p.condition(), Body: p.block()}
	if p.take("else") {
		s.Else = p.block()
	}
	return s
}

// attempt reads what follows a "try".
func (p *parser) attempt() api.Stmt {
	s := api.Stmt{Kind: api.STry, Body: p.block()}
	p.need("catch")
	p.need("(")
	caught := p.typed()
	p.need(")")
	s.Name, s.Type, s.Else = caught.Name, caught.Type, p.block()
	return s
}

// action reads a statement that begins with a post: an assignment to a variable or a field, or a call.
func (p *parser) action() api.Stmt {
	inParentheses := p.is("(")
	e := p.atom()
	// The tree does not show parentheses, but an expression that stands in them can be neither assigned to nor be the call of the statement.
	p.fit(!inParentheses || p.is("."))
	e = p.members(e)
	switch e.Kind {
	case api.EVar:
		p.need("=")
		return p.ended(api.Stmt{Kind: api.SAssign, Name: e.Name, Exprs: []api.Expr{p.expr()}})
	case api.EField:
		p.need("=")
		return p.ended(api.Stmt{Kind: api.SStore, Name: e.Name, Exprs: []api.Expr{e.Kids[0], p.expr()}})
	}
	p.fit(e.Kind == api.ECall || e.Kind == api.EStatic)
	return p.ended(api.Stmt{Kind: api.SCall, Exprs: []api.Expr{e}})
}

func (p *parser) expr() api.Expr { return p.operation(comparing) }

// operation reads an expr, a sum or a prod: operators that have at least a certain level, and their operands. One method for the three of them needs much less memory where parentheses stand within parentheses, of which a text may have thousands.
func (p *parser) operation(least int) api.Expr {
	e := p.members(p.atom())
	for {
		op, level := operator(p.next().Text)
		if level < least {
			return e
		}
		p.read()
		e = api.Expr{Kind: api.EBin, N: op, Kids: []api.Expr{e, p.operation(level + 1)}}
		if level == comparing {
			return e
		}
	}
}

// members reads what follows the atom e of a post.
func (p *parser) members(e api.Expr) api.Expr {
	for p.take(".") {
		e = api.Expr{Kind: api.EField, Name: p.name(), Kids: []api.Expr{e}}
		if p.is("(") {
			e.Kind = api.ECall
			e.Kids = append(e.Kids, p.arguments()...)
		}
	}
	return e
}

// arguments reads "(" [ expr { "," expr } ] ")".
func (p *parser) arguments() []api.Expr { return list(p, p.expr) }

func (p *parser) atom() api.Expr {
	switch {
	case p.take("-"):
		p.fit(p.next().Kind == api.TokNumber && p.next().N != 0)
		return api.Expr{Kind: api.EInt, N: -p.read().N}
	case p.next().Kind == api.TokNumber:
		return api.Expr{Kind: api.EInt, N: p.read().N}
	case p.take("null"):
		return api.Expr{Kind: api.ENull}
	case p.take("this"):
		return api.Expr{Kind: api.EThis}
	case p.take("input"):
		p.nothing()
		return api.Expr{Kind: api.EInput}
	case p.take("new"):
		e := api.Expr{Kind: api.ENew, Name: p.name()}
		p.nothing()
		return e
	case p.take("("):
		e := p.expr()
		p.need(")")
		return e
	}
	name := p.name()
	if !p.take("::") {
		return api.Expr{Kind: api.EVar, Name: name}
	}
	return api.Expr{Kind: api.EStatic, Of: name, Name: p.name(), Kids: p.arguments()}
}

// nothing reads "(" ")".
func (p *parser) nothing() {
	p.need("(")
	p.need(")")
}

// The levels of operators: those of a greater one bind more tightly.
const (
	comparing = 1 + iota
	adding
	multiplying
)

// operator returns the operator with a text and its level, or 0 and 0.
func operator(text string) (op int64, level int) {
	switch text {
	case "<":
		return api.OpLess, comparing
	case "==":
		return api.OpEqual, comparing
	case "+":
		return api.OpAdd, adding
	case "-":
		return api.OpSub, adding
	case "*":
		return api.OpMul, multiplying
	}
	return 0, 0
}
