package format

import (
	"strconv"
	"strings"

	"dataflow/api"
)

// Levels of expressions: how tightly their parts hold together.
const (
	comparison = 1
	sum        = 2
	product    = 3
	tight      = 4
)

// operator is a binary operator: its text, its level, and the levels that its operands require.
type operator struct {
	text                 string
	level, first, second int
}

// operators are the binary operators.
var operators = [...]operator{
	api.OpAdd:   {"+", sum, sum, product},
	api.OpSub:   {"-", sum, sum, product},
	api.OpMul:   {"*", product, product, tight},
	api.OpLess:  {"<", comparison, sum, sum},
	api.OpEqual: {"==", comparison, sum, sum},
}

// printer writes trees without faults, with its builder.
type printer struct {
	strings.Builder
	indent int // the tabs before a line
}

// put writes texts. What follows the first byte too many is left out, since a text that is too long is not returned.
func (p *printer) put(texts ...string) {
	for _, text := range texts {
		if p.Len() <= api.MaxText {
			p.WriteString(text)
		}
	}
}

// margin begins a line.
func (p *printer) margin() { p.put(strings.Repeat("\t", p.indent)) }

// open begins a block at the end of a line.
func (p *printer) open() {
	p.put("{\n")
	p.indent++
}

// shut ends a block, without ending its line.
func (p *printer) shut() {
	p.indent--
	p.margin()
	p.put("}")
}

func (p *printer) source(src api.Source) {
	for _, c := range src.Classes {
		p.class(c)
	}
}

func (p *printer) class(c api.Class) {
	p.put("class ", c.Name, " ")
	if c.Super != "" {
		p.put("extends ", c.Super, " ")
	}
	p.open()
	for _, f := range c.Fields {
		p.margin()
		p.put("var ")
		p.field(f)
		p.put(";\n")
	}
	for _, m := range c.Methods {
		p.method(m)
	}
	p.shut()
	p.put("\n")
}

// field writes a field or a parameter.
func (p *printer) field(f api.Field) { p.put(f.Name, ": ", f.Type) }

func (p *printer) method(m api.Method) {
	p.margin()
	if m.Static {
		p.put("static ")
	}
	p.put("def ", m.Name)
	list(p, m.Params, p.field)
	if m.Result != "" {
		p.put(": ", m.Result)
	}
	p.put(" ")
	p.block(m.Body)
	p.put("\n")
}

// block writes statements in braces, without ending the line of the last brace.
func (p *printer) block(stmts []api.Stmt) {
	p.open()
	for _, s := range stmts {
		p.stmt(s)
	}
	p.shut()
}

func (p *printer) stmt(s api.Stmt) {
	p.margin()
	switch s.Kind {
	case api.SIf:
		p.head("if", s)
		if len(s.Else) > 0 {
			p.put(" else ")
			p.block(s.Else)
		}
	case api.SWhile:
		p.head("while", s)
	case api.STry:
		p.put("try ")
		p.block(s.Body)
		p.put(" catch (", s.Name, ": ", s.Type, ") ")
		p.block(s.Else)
	default:
		p.simple(s)
		p.put(";")
	}
	p.put("\n")
}

// head writes a keyword, a condition and a body.
func (p *printer) head(keyword string, s api.Stmt) {
	p.put(keyword, " (")
	p.expr(s.Exprs[0])
	p.put(") ")
	p.block(s.Body)
}

// simple writes a statement that has no others within it, up to its semicolon.
func (p *printer) simple(s api.Stmt) {
	value := s.Exprs
	switch s.Kind {
	case api.SVar:
		p.put("var ", s.Name, ": ", s.Type)
		if len(value) > 0 {
			p.put(" = ")
		}
	case api.SAssign:
		p.put(s.Name, " = ")
	case api.SStore:
		p.operand(s.Exprs[0], tight)
		p.put(".", s.Name, " = ")
		value = s.Exprs[1:]
	case api.SThrow:
		p.put("throw ")
	case api.SReturn:
		p.put("return")
		if len(value) > 0 {
			p.put(" ")
		}
	}
	for _, e := range value {
		p.expr(e)
	}
}

// operand writes an expression, in parentheses if its level is below the required one.
func (p *printer) operand(e api.Expr, least int) {
	if e.Kind == api.EBin && operators[e.N].level < least {
		p.put("(")
		p.expr(e)
		p.put(")")
		return
	}
	p.expr(e)
}

func (p *printer) expr(e api.Expr) {
	switch e.Kind {
	case api.EInt:
		p.put(strconv.FormatInt(e.N, 10))
	case api.ENull:
		p.put("null")
	case api.EVar:
		p.put(e.Name)
	case api.EThis:
		p.put("this")
	case api.EInput:
		p.put("input()")
	case api.EBin:
		op := operators[e.N]
		p.operand(e.Kids[0], op.first)
		p.put(" ", op.text, " ")
		p.operand(e.Kids[1], op.second)
	case api.ENew:
		p.put("new ", e.Name, "()")
	case api.EField, api.ECall:
		p.operand(e.Kids[0], tight)
		p.put(".", e.Name)
		if e.Kind == api.ECall {
			list(p, e.Kids[1:], p.expr)
		}
	case api.EStatic:
		p.put(e.Of, "::", e.Name)
		list(p, e.Kids, p.expr)
	}
}

// list writes items in parentheses.
func list[T any](p *printer, items []T, write func(T)) {
	p.put("(")
	for i, item := range items {
		if i > 0 {
			p.put(", ")
		}
		write(item)
	}
	p.put(")")
}
