package typecheck

import (
	"slices"

	"dataflow/api"
	"dataflow/hier"
	"dataflow/lex"
)

// The model says what the chapter says, one sentence after the other. A judge knows what a method may use.
type judge struct {
	h      api.Hier
	this   string
	result string
	count  int // of the statements that have been judged
}

func modelClass(h api.Hier, t string) bool {
	for _, c := range h.Classes {
		if c.Name == t {
			return t != "int"
		}
	}
	return false
}

func modelAssignable(h api.Hier, from, to string) bool {
	if to != "int" && !modelClass(h, to) {
		return false
	}
	chained := modelClass(h, from) && modelClass(h, to) && slices.Contains(hier.Supers(h, from), to)
	return from == to || from == "null" && modelClass(h, to) || chained
}

func modelReturns(body []api.Stmt) bool {
	for _, s := range body {
		if s.Kind == api.SReturn || s.Kind == api.SThrow {
			return true
		}
		if (s.Kind == api.SIf || s.Kind == api.STry) && modelReturns(s.Body) && modelReturns(s.Else) {
			return true
		}
	}
	return false
}

// modelDepth returns the depth of an expression.
func modelDepth(e api.Expr) int {
	depth := 0
	for _, kid := range e.Kids {
		depth = max(depth, modelDepth(kid))
	}
	return 1 + depth
}

// modelSize returns the number of statements and their greatest depth.
func modelSize(stmts []api.Stmt) (count, depth int) {
	for _, s := range stmts {
		below := 0
		for _, e := range s.Exprs {
			below = max(below, modelDepth(e))
		}
		for _, list := range [][]api.Stmt{s.Body, s.Else} {
			n, d := modelSize(list)
			count, below = count+n, max(below, d)
		}
		count, depth = count+1, max(depth, 1+below)
	}
	return count, depth
}

func lookFor(scope []api.Field, name string) int {
	return slices.IndexFunc(scope, func(v api.Field) bool { return v.Name == name })
}

// in returns the list with an item behind it, in new memory.
func in(scope []api.Field, name, typ string) []api.Field {
	return append(slices.Clone(scope), api.Field{Name: name, Type: typ})
}

func modelProgram(src api.Source) (api.Fault, api.Errno) {
	h := hier.Of(src)
	if i, e := hier.Check(h); e != api.OK {
		if i < 0 {
			return api.Fault{Stmt: -1}, e
		}
		return api.Fault{Class: src.Classes[i].Name, Stmt: -1}, e
	}
	found := false
	for _, c := range src.Classes {
		for _, m := range c.Methods {
			found = found || c.Name == "Main" && m.Name == "main" && m.Static && len(m.Params) == 0 && m.Result == ""
		}
	}
	if !found {
		return api.Fault{Class: "Main", Stmt: -1}, api.ErrMain
	}
	for _, c := range src.Classes {
		for _, m := range c.Methods {
			if at, e := modelMethod(h, c.Name, m); e != api.OK {
				return api.Fault{Class: c.Name, Method: m.Name, Stmt: at}, e
			}
		}
	}
	return api.Fault{}, api.OK
}

func modelMethod(h api.Hier, class string, m api.Method) (int, api.Errno) {
	count, depth := modelSize(m.Body)
	if count > 200 {
		return -1, api.ErrTooLong
	}
	if depth > 32 {
		return -1, api.ErrDeep
	}
	for k, p := range m.Params {
		if !lex.Ident(p.Name) {
			return -1, api.ErrName
		}
		if lookFor(m.Params[:k], p.Name) >= 0 {
			return -1, api.ErrExists
		}
	}
	j := &judge{h: h, this: class, result: m.Result}
	if m.Static {
		j.this = ""
	}
	if e := j.list(m.Params, m.Body); e != api.OK {
		return j.count - 1, e
	}
	if m.Result != "" && !modelReturns(m.Body) {
		return -1, api.ErrType
	}
	return 0, api.OK
}

func (j *judge) list(scope []api.Field, stmts []api.Stmt) api.Errno {
	for _, s := range stmts {
		j.count++
		if e := j.shape(s); e != api.OK {
			return e
		}
		if e := j.head(scope, s); e != api.OK {
			return e
		}
		if e := j.list(scope, s.Body); e != api.OK {
			return e
		}
		inner := scope
		if s.Kind == api.STry {
			inner = in(scope, s.Name, s.Type)
		}
		if e := j.list(inner, s.Else); e != api.OK {
			return e
		}
		if s.Kind == api.SVar {
			scope = in(scope, s.Name, s.Type)
		}
	}
	return api.OK
}

func (j *judge) shape(s api.Stmt) api.Errno {
	counts := map[int][]int{api.SVar: {0, 1}, api.SAssign: {1}, api.SStore: {2}, api.SIf: {1}, api.SWhile: {1}, api.STry: {0}, api.SThrow: {1}, api.SReturn: {0, 1}, api.SCall: {1}}
	allowed, known := counts[s.Kind]
	if !known {
		return api.ErrKind
	}
	if !slices.Contains(allowed, len(s.Exprs)) {
		return api.ErrInvalid
	}
	if len(s.Body) > 0 && !slices.Contains([]int{api.SIf, api.SWhile, api.STry}, s.Kind) {
		return api.ErrInvalid
	}
	if len(s.Else) > 0 && !slices.Contains([]int{api.SIf, api.STry}, s.Kind) {
		return api.ErrInvalid
	}
	return api.OK
}

// head judges a statement without those within it.
func (j *judge) head(scope []api.Field, s api.Stmt) api.Errno {
	at := lookFor(scope, s.Name)
	switch s.Kind {
	case api.SVar, api.STry:
		if !lex.Ident(s.Name) {
			return api.ErrName
		}
		if !modelClass(j.h, s.Type) && !(s.Kind == api.SVar && s.Type == "int") {
			return api.ErrType
		}
		if at >= 0 {
			return api.ErrExists
		}
		return j.to(scope, s.Exprs, s.Type)
	case api.SAssign:
		if at < 0 {
			return api.ErrUnknown
		}
		return j.to(scope, s.Exprs, scope[at].Type)
	case api.SStore:
		class, e := j.expr(scope, s.Exprs[0])
		if e != api.OK {
			return e
		}
		if !modelClass(j.h, class) {
			return api.ErrType
		}
		_, typ, ok := hier.Field(j.h, class, s.Name)
		if !ok {
			return api.ErrUnknown
		}
		return j.to(scope, s.Exprs[1:], typ)
	case api.SIf, api.SWhile:
		return j.to(scope, s.Exprs, "int")
	case api.SReturn:
		if (len(s.Exprs) == 1) != (j.result != "") {
			return api.ErrArity
		}
		return j.to(scope, s.Exprs, j.result)
	}
	call := s.Exprs[0].Kind == api.ECall || s.Exprs[0].Kind == api.EStatic
	if s.Kind == api.SCall && !call {
		return api.ErrKind
	}
	typ, e := j.expr(scope, s.Exprs[0])
	if e == api.OK && s.Kind == api.SThrow && typ != "null" && !modelClass(j.h, typ) {
		return api.ErrType
	}
	return e
}

// to judges a value that is assigned to a type, if there is one.
func (j *judge) to(scope []api.Field, exprs []api.Expr, typ string) api.Errno {
	for _, x := range exprs {
		from, e := j.expr(scope, x)
		if e != api.OK {
			return e
		}
		if !modelAssignable(j.h, from, typ) {
			return api.ErrType
		}
	}
	return api.OK
}

func (j *judge) expr(scope []api.Field, x api.Expr) (string, api.Errno) {
	least := map[int]int{api.EInt: 0, api.ENull: 0, api.EVar: 0, api.EThis: 0, api.EInput: 0, api.EBin: 2, api.ENew: 0, api.EField: 1, api.ECall: 1, api.EStatic: 0}
	count, known := least[x.Kind]
	if !known || x.Kind == api.EBin && (x.N < 1 || x.N > 5) {
		return "", api.ErrKind
	}
	more := x.Kind == api.ECall || x.Kind == api.EStatic
	if len(x.Kids) < count || len(x.Kids) > count && !more {
		return "", api.ErrInvalid
	}
	switch x.Kind {
	case api.EInt, api.EInput:
		return "int", api.OK
	case api.ENull:
		return "null", api.OK
	case api.EVar:
		if at := lookFor(scope, x.Name); at >= 0 {
			return scope[at].Type, api.OK
		}
	case api.EThis:
		if j.this != "" {
			return j.this, api.OK
		}
	case api.ENew:
		if modelClass(j.h, x.Name) {
			return x.Name, api.OK
		}
	case api.EBin:
		return j.operation(scope, x)
	default:
		return j.member(scope, x)
	}
	return "", api.ErrUnknown
}

func (j *judge) operation(scope []api.Field, x api.Expr) (string, api.Errno) {
	a, e := j.expr(scope, x.Kids[0])
	if e != api.OK {
		return "", e
	}
	b, e := j.expr(scope, x.Kids[1])
	if e != api.OK {
		return "", e
	}
	if a == "int" && b == "int" {
		return "int", api.OK
	}
	related := a == "null" && b == "null" || (modelAssignable(j.h, a, b) || modelAssignable(j.h, b, a)) && a != "int" && b != "int"
	if x.N == api.OpEqual && related {
		return "int", api.OK
	}
	return "", api.ErrType
}

// member judges an EField, an ECall or an EStatic.
func (j *judge) member(scope []api.Field, x api.Expr) (string, api.Errno) {
	class, args := x.Of, x.Kids
	if x.Kind != api.EStatic {
		typ, e := j.expr(scope, x.Kids[0])
		if e != api.OK {
			return "", e
		}
		if !modelClass(j.h, typ) {
			return "", api.ErrType
		}
		class, args = typ, x.Kids[1:]
	}
	if x.Kind == api.EField {
		_, typ, ok := hier.Field(j.h, class, x.Name)
		if !ok {
			return "", api.ErrUnknown
		}
		return typ, api.OK
	}
	_, sig, ok := hier.Lookup(j.h, class, x.Name)
	if !modelClass(j.h, class) || !ok || sig.Static != (x.Kind == api.EStatic) {
		return "", api.ErrUnknown
	}
	if len(args) != len(sig.Params) {
		return "", api.ErrArity
	}
	for i := range args {
		if e := j.to(scope, args[i:i+1], sig.Params[i]); e != api.OK {
			return "", e
		}
	}
	return sig.Result, api.OK
}

func modelExpr(src api.Source, class string, scope []api.Field, x api.Expr) (string, api.Errno) {
	h := hier.Of(src)
	if _, e := hier.Check(h); e != api.OK {
		return "", e
	}
	if class != "" && !modelClass(h, class) {
		return "", api.ErrUnknown
	}
	for i, v := range scope {
		if !lex.Ident(v.Name) {
			return "", api.ErrName
		}
		if v.Type != "int" && !modelClass(h, v.Type) {
			return "", api.ErrType
		}
		if lookFor(scope[:i], v.Name) >= 0 {
			return "", api.ErrExists
		}
	}
	if modelDepth(x) > 32 {
		return "", api.ErrDeep
	}
	return (&judge{h: h, this: class}).expr(scope, x)
}
