package format

import (
	"cmp"
	"math"

	"dataflow/api"
	"dataflow/lex"
)

// exprForm says which fields a kind of expressions uses, and how many Kids it has.
type exprForm struct {
	n, of, name bool
	least, most int
}

// exprForms are the forms of the kinds of expressions.
var exprForms = [...]exprForm{
	api.EInt:    {n: true},
	api.ENull:   {},
	api.EVar:    {name: true},
	api.EThis:   {},
	api.EInput:  {},
	api.EBin:    {n: true, least: 2, most: 2},
	api.ENew:    {name: true},
	api.EField:  {name: true, least: 1, most: 1},
	api.ECall:   {name: true, least: 1, most: math.MaxInt},
	api.EStatic: {of: true, name: true, most: math.MaxInt},
}

// stmtForm says which fields a kind of statements uses, and how many Exprs it has.
type stmtForm struct {
	name, typ, body, other bool
	least, most            int
}

// stmtForms are the forms of the kinds of statements.
var stmtForms = [...]stmtForm{
	api.SVar:    {name: true, typ: true, most: 1},
	api.SAssign: {name: true, least: 1, most: 1},
	api.SStore:  {name: true, least: 2, most: 2},
	api.SIf:     {body: true, other: true, least: 1, most: 1},
	api.SWhile:  {body: true, least: 1, most: 1},
	api.STry:    {name: true, typ: true, body: true, other: true},
	api.SThrow:  {least: 1, most: 1},
	api.SReturn: {most: 1},
	api.SCall:   {least: 1, most: 1},
}

// sourceFault returns the first error of a source apart from the limits.
func sourceFault(src api.Source) api.Errno { return first(src.Classes, classFault) }

func classFault(c api.Class) api.Errno {
	if !lex.Ident(c.Name) || c.Super != "" && !lex.Ident(c.Super) {
		return api.ErrName
	}
	return cmp.Or(first(c.Fields, fieldFault), first(c.Methods, methodFault))
}

// fieldFault returns the fault of a field or a parameter.
func fieldFault(f api.Field) api.Errno {
	if !lex.Ident(f.Name) {
		return api.ErrName
	}
	if !isType(f.Type) {
		return api.ErrType
	}
	return api.OK
}

func methodFault(m api.Method) api.Errno {
	if !lex.Ident(m.Name) {
		return api.ErrName
	}
	if e := first(m.Params, fieldFault); e != api.OK {
		return e
	}
	if m.Result != "" && !isType(m.Result) {
		return api.ErrType
	}
	return first(m.Body, stmtFault)
}

func stmtFault(s api.Stmt) api.Errno {
	if s.Kind < api.SVar || s.Kind > api.SCall {
		return api.ErrKind
	}
	form := stmtForms[s.Kind]
	switch {
	case !form.fits(s):
		return api.ErrInvalid
	case form.name && !lex.Ident(s.Name):
		return api.ErrName
	case form.typ && !isType(s.Type):
		return api.ErrType
	}
	return cmp.Or(first(s.Exprs, exprFault), callFault(s), first(s.Body, stmtFault), first(s.Else, stmtFault))
}

// callFault returns the fault of a call that is no call.
func callFault(s api.Stmt) api.Errno {
	if s.Kind == api.SCall && s.Exprs[0].Kind != api.ECall && s.Exprs[0].Kind != api.EStatic {
		return api.ErrKind
	}
	return api.OK
}

func exprFault(e api.Expr) api.Errno {
	if e.Kind < api.EInt || e.Kind > api.EStatic || e.Kind == api.EBin && (e.N < api.OpAdd || e.N > api.OpEqual) {
		return api.ErrKind
	}
	form := exprForms[e.Kind]
	switch {
	case !form.fits(e):
		return api.ErrInvalid
	case e.Kind == api.EInt && e.N == math.MinInt64:
		return api.ErrRange
	case form.of && !lex.Ident(e.Of), form.name && !lex.Ident(e.Name):
		return api.ErrName
	}
	return first(e.Kids, exprFault)
}

// fits reports whether a statement has no other fields than those of the form, and as many Exprs.
func (f stmtForm) fits(s api.Stmt) bool {
	fields := (f.name || s.Name == "") && (f.typ || s.Type == "") && (f.body || len(s.Body) == 0) && (f.other || len(s.Else) == 0)
	return fields && f.least <= len(s.Exprs) && len(s.Exprs) <= f.most
}

// fits reports whether an expression has no other fields than those of the form, and as many Kids.
func (f exprForm) fits(e api.Expr) bool {
	fields := (f.n || e.N == 0) && (f.of || e.Of == "") && (f.name || e.Name == "")
	return fields && f.least <= len(e.Kids) && len(e.Kids) <= f.most
}

// isType reports whether a text is a type.
func isType(s string) bool { return s == "int" || lex.Ident(s) }

// first returns the fault of the first part that has one.
func first[T any](parts []T, fault func(T) api.Errno) api.Errno {
	for _, part := range parts {
		if e := fault(part); e != api.OK {
			return e
		}
	}
	return api.OK
}
