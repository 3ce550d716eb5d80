package parse

import (
	"slices"
	"strconv"
	"strings"
	"testing"

	"dataflow/api"
	"dataflow/lex"
)

// maker makes some trees and texts, other ones for each seed.
type maker struct{ seed uint }

// upTo returns some number from 0 to n-1.
func (m *maker) upTo(n int) int {
	m.seed = m.seed*6364136223846793005 + 1442695040888963407
	return int(m.seed >> 33 % uint(n))
}

func (m *maker) name() string {
	return []string{"a", "b", "Node", "x_1", "classes", "int2", "Z", strings.Repeat("n", 32)}[m.upTo(8)]
}

func (m *maker) typeName() string {
	if m.upTo(3) == 0 {
		return "int"
	}
	return m.name()
}

func (m *maker) typed() api.Field { return api.Field{Name: m.name(), Type: m.typeName()} }

// exprs returns as many expressions of at most this depth.
func (m *maker) exprs(count, depth int) []api.Expr {
	var list []api.Expr
	for range count {
		list = append(list, m.expr(depth))
	}
	return list
}

func (m *maker) expr(depth int) api.Expr {
	kind := 1 + m.upTo(10)
	if depth == 1 && kind != api.EStatic {
		kind = 1 + m.upTo(5)
	}
	switch kind {
	case api.EInt:
		return api.Expr{Kind: kind, N: []int64{0, 1, -1, 7, -30, 9223372036854775807, -9223372036854775807}[m.upTo(7)]}
	case api.EVar, api.ENew:
		return api.Expr{Kind: kind, Name: m.name()}
	case api.EBin:
		return api.Expr{Kind: kind, N: int64(1 + m.upTo(5)), Kids: m.exprs(2, depth-1)}
	case api.EField:
		return api.Expr{Kind: kind, Name: m.name(), Kids: m.exprs(1, depth-1)}
	case api.ECall:
		return api.Expr{Kind: kind, Name: m.name(), Kids: m.exprs(1+m.upTo(4), depth-1)}
	case api.EStatic:
		return api.Expr{Kind: kind, Of: m.name(), Name: m.name(), Kids: m.exprs(m.upTo(4)*min(depth-1, 1), depth-1)}
	}
	return api.Expr{Kind: kind}
}

// stmts returns at most this many statements of at most this depth.
func (m *maker) stmts(most, depth int) []api.Stmt {
	var list []api.Stmt
	for range m.upTo(most + 1) {
		if depth > 0 {
			list = append(list, m.stmt(depth))
		}
	}
	return list
}

func (m *maker) stmt(depth int) api.Stmt {
	s := api.Stmt{Kind: 1 + m.upTo(9)}
	if depth < 4 {
		s.Kind = api.SReturn
	}
	switch s.Kind {
	case api.SVar:
		s.Name, s.Type, s.Exprs = m.name(), m.typeName(), m.exprs(m.upTo(2), depth-1)
	case api.SAssign:
		s.Name, s.Exprs = m.name(), m.exprs(1, depth-1)
	case api.SStore:
		s.Name, s.Exprs = m.name(), m.exprs(2, depth-1)
	case api.SIf:
		s.Exprs, s.Body, s.Else = m.exprs(1, depth-1), m.stmts(2, depth-1), m.stmts(2, depth-1)
	case api.SWhile:
		s.Exprs, s.Body = m.exprs(1, depth-1), m.stmts(2, depth-1)
	case api.STry:
		s.Name, s.Type, s.Body, s.Else = m.name(), m.typeName(), m.stmts(2, depth-1), m.stmts(2, depth-1)
	case api.SThrow:
		s.Exprs = m.exprs(1, depth-1)
	case api.SReturn:
		s.Exprs = m.exprs(m.upTo(2)*min(depth-1, 1), depth-1)
	case api.SCall:
		call := m.expr(depth - 1)
		for call.Kind != api.ECall && call.Kind != api.EStatic {
			call = m.expr(depth - 1)
		}
		s.Exprs = []api.Expr{call}
	}
	return s
}

func (m *maker) method() api.Method {
	d := api.Method{Name: m.name(), Static: m.upTo(2) == 0, Body: m.stmts(5, 7)}
	for range m.upTo(4) {
		d.Params = append(d.Params, m.typed())
	}
	if m.upTo(2) == 0 {
		d.Result = m.typeName()
	}
	return d
}

func (m *maker) class() api.Class {
	c := api.Class{Name: m.name()}
	if m.upTo(2) == 0 {
		c.Super = m.name()
	}
	for range m.upTo(4) {
		c.Fields = append(c.Fields, m.typed())
	}
	for range m.upTo(4) {
		c.Methods = append(c.Methods, m.method())
	}
	return c
}

func (m *maker) source() api.Source {
	var src api.Source
	for range m.upTo(4) {
		src.Classes = append(src.Classes, m.class())
	}
	return src
}

// writer writes the tokens of trees, with more parentheses than are needed where its maker says so.
type writer struct {
	maker
	words []string
}

func (w *writer) put(words ...string) { w.words = append(w.words, words...) }

// text returns the tokens, with separators and comments between them.
func (w *writer) text() string {
	var text strings.Builder
	for i, word := range w.words {
		gaps := []string{" ", "\n", "\t", "\r\n", " // } \" é\n", "//\n", "  ", "\n\n\t"}
		if i > 0 && (isWordByte(w.words[i-1][0]) && isWordByte(word[0]) || w.upTo(3) == 0) || w.upTo(20) == 0 {
			text.WriteString(gaps[w.upTo(len(gaps))])
		}
		text.WriteString(word)
	}
	return text.String()
}

// isWordByte reports whether a byte is one of a word or number, and also for = and :, which may not stand together either.
func isWordByte(b byte) bool {
	return 'a' <= b && b <= 'z' || 'A' <= b && b <= 'Z' || '0' <= b && b <= '9' || b == '_' || b == '=' || b == ':'
}

func (w *writer) typed(f api.Field) { w.put(f.Name, ":", f.Type) }

// expr writes an expression that has at least a level, or stands in parentheses: 1 for a comparison, 2 for a sum, 3 for a product, 4 for others.
func (w *writer) expr(e api.Expr, least int) {
	level := 4
	if e.Kind == api.EBin {
		level = []int{0, 2, 2, 3, 1, 1}[e.N]
	}
	if level < least || w.upTo(8) == 0 {
		w.put("(")
		w.expr(e, 1)
		w.put(")")
		return
	}
	w.open(e, level)
}

func (w *writer) list(exprs []api.Expr) {
	w.put("(")
	for i, e := range exprs {
		if i > 0 {
			w.put(",")
		}
		w.expr(e, 1)
	}
	w.put(")")
}

// open writes an expression that does not stand in parentheses.
func (w *writer) open(e api.Expr, level int) {
	switch e.Kind {
	case api.EInt:
		if e.N < 0 {
			w.put("-")
		}
		w.put(strings.TrimPrefix(strconv.FormatInt(e.N, 10), "-"))
	case api.ENull:
		w.put("null")
	case api.EVar:
		w.put(e.Name)
	case api.EThis:
		w.put("this")
	case api.EInput:
		w.put("input", "(", ")")
	case api.EBin:
		operand := []int{0, 2, 3, 4}
		first := operand[level]
		if level == 2 || level == 3 {
			first = level
		}
		w.expr(e.Kids[0], first)
		w.put([]string{"", "+", "-", "*", "<", "=="}[e.N])
		w.expr(e.Kids[1], operand[level])
	case api.ENew:
		w.put("new", e.Name, "(", ")")
	case api.EField:
		w.expr(e.Kids[0], 4)
		w.put(".", e.Name)
	case api.ECall:
		w.expr(e.Kids[0], 4)
		w.put(".", e.Name)
		w.list(e.Kids[1:])
	case api.EStatic:
		w.put(e.Of, "::", e.Name)
		w.list(e.Kids)
	}
}

func (w *writer) block(stmts []api.Stmt) {
	w.put("{")
	for _, s := range stmts {
		w.stmt(s)
	}
	w.put("}")
}

func (w *writer) stmt(s api.Stmt) {
	switch s.Kind {
	case api.SVar:
		w.put("var")
		w.typed(api.Field{Name: s.Name, Type: s.Type})
		if len(s.Exprs) > 0 {
			w.put("=")
		}
	case api.SAssign:
		w.put(s.Name, "=")
	case api.SStore:
		w.expr(s.Exprs[0], 4)
		w.put(".", s.Name, "=")
		s.Exprs = s.Exprs[1:]
	case api.SIf, api.SWhile:
		w.put([]string{"if", "while"}[s.Kind-api.SIf])
		w.list(s.Exprs)
		w.block(s.Body)
		if len(s.Else) > 0 || s.Kind == api.SIf && w.upTo(2) == 0 {
			w.put("else")
			w.block(s.Else)
		}
		return
	case api.STry:
		w.put("try")
		w.block(s.Body)
		w.put("catch", "(")
		w.typed(api.Field{Name: s.Name, Type: s.Type})
		w.put(")")
		w.block(s.Else)
		return
	case api.SThrow:
		w.put("throw")
	case api.SReturn:
		w.put("return")
	case api.SCall:
		w.open(s.Exprs[0], 4)
		s.Exprs = nil
	}
	for _, e := range s.Exprs {
		w.expr(e, 1)
	}
	w.put(";")
}

func (w *writer) method(m api.Method) {
	if m.Static {
		w.put("static")
	}
	w.put("def", m.Name, "(")
	for i, f := range m.Params {
		if i > 0 {
			w.put(",")
		}
		w.typed(f)
	}
	w.put(")")
	if m.Result != "" {
		w.put(":", m.Result)
	}
	w.block(m.Body)
}

func (w *writer) field(f api.Field) {
	w.put("var")
	w.typed(f)
	w.put(";")
}

func (w *writer) class(c api.Class) {
	w.put("class", c.Name)
	if c.Super != "" {
		w.put("extends", c.Super)
	}
	w.put("{")
	for _, f := range c.Fields {
		w.field(f)
	}
	for _, m := range c.Methods {
		w.method(m)
	}
	w.put("}")
}

func (w *writer) source(src api.Source) {
	for _, c := range src.Classes {
		w.class(c)
	}
}

// ofClass, ofMethod and ofExpr return sources that are the same only if the given parts are.
func ofClass(c api.Class) api.Source   { return api.Source{Classes: []api.Class{c}} }
func ofMethod(m api.Method) api.Source { return ofClass(api.Class{Methods: []api.Method{m}}) }
func ofExpr(e api.Expr) api.Source {
	return ofMethod(api.Method{Body: []api.Stmt{{Exprs: []api.Expr{e}}}})
}

func TestTrees(t *testing.T) { // P8.1
	for seed := range uint(400) {
		m := &maker{seed}
		write := func(of func(*writer)) string {
			w := &writer{maker: maker{seed}}
			of(w)
			return w.text()
		}
		src := m.source()
		s := write(func(w *writer) { w.source(src) })
		if got, at, e := Program(s); e != api.OK || at != 0 || !Same(got, src) {
			t.Errorf("Program %q: %v %d %d, want %v", s, got, at, int(e), src)
		}
		class := m.class()
		s = write(func(w *writer) { w.class(class) })
		if got, at, e := Class(s); e != api.OK || at != 0 || !Same(ofClass(got), ofClass(class)) {
			t.Errorf("Class %q: %v %d %d, want %v", s, got, at, int(e), class)
		}
		method := m.method()
		s = write(func(w *writer) { w.method(method) })
		if got, at, e := Method(s); e != api.OK || at != 0 || !Same(ofMethod(got), ofMethod(method)) {
			t.Errorf("Method %q: %v %d %d, want %v", s, got, at, int(e), method)
		}
		field := m.typed()
		s = write(func(w *writer) { w.field(field) })
		if got, at, e := Field(s); e != api.OK || at != 0 || got != field {
			t.Errorf("Field %q: %v %d %d, want %v", s, got, at, int(e), field)
		}
		for range 5 {
			expr := m.expr(6)
			s = write(func(w *writer) { w.expr(expr, 1) })
			if got, at, e := Expr(s); e != api.OK || at != 0 || !Same(ofExpr(got), ofExpr(expr)) {
				t.Errorf("Expr %q: %v %d %d, want %v", s, got, at, int(e), expr)
			}
		}
	}
}

func TestOnlyTokensCount(t *testing.T) { // P8.3
	for seed := range uint(200) {
		m := &maker{seed}
		w := &writer{maker: maker{seed}}
		w.source(m.source())
		if seed%3 == 0 && len(w.words) > 4 { // Most texts have a fault then.
			i := m.upTo(len(w.words) - 2)
			w.words = slices.Delete(w.words, i, i+1+m.upTo(2))
		}
		one, two := w.text(), w.text()
		tokens, _, _ := lex.Tokens(one)
		a, _, e := Program(one)
		for _, s := range []string{two, lex.Join(tokens...), "// x\n" + one + "//", "\r\n\t " + two + "\n"} {
			if b, _, f := Program(s); f != e || !Same(a, b) {
				t.Errorf("Program %q: %v %d; %q: %v %d", one, a, int(e), s, b, int(f))
			}
		}
	}
}

func TestOneTextAfterTheOther(t *testing.T) { // P8.4
	var all []string
	for seed := range uint(60) {
		w := &writer{maker: maker{seed}}
		w.source((&maker{seed}).source())
		all = append(all, w.text())
	}
	all = append(all, "", "// x", "class A { } // x", "class A{}")
	for _, one := range all {
		for _, two := range all {
			a, _, _ := Program(one)
			b, _, _ := Program(two)
			want := api.Source{Classes: slices.Concat(a.Classes, b.Classes)}
			if c, at, e := Program(one + "\n" + two); e != api.OK || at != 0 || !Same(c, want) {
				t.Fatalf("Program of %q and %q: %v %d", one, two, c, int(e))
			}
		}
	}
}
