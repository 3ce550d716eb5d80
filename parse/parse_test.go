package parse

import (
	"slices"
	"strings"
	"testing"

	"dataflow/api"
)

func number(n int64) api.Expr { return api.Expr{Kind: api.EInt, N: n} }

func variable(name string) api.Expr { return api.Expr{Kind: api.EVar, Name: name} }

func operation(op int64, a, b api.Expr) api.Expr {
	return api.Expr{Kind: api.EBin, N: op, Kids: []api.Expr{a, b}}
}

func access(kind int, name string, kids ...api.Expr) api.Expr {
	return api.Expr{Kind: kind, Name: name, Kids: kids}
}

func TestExpr(t *testing.T) { // P8.1
	a, b, c := variable("a"), variable("b"), variable("c")
	for _, x := range []struct {
		s    string
		want api.Expr
	}{
		{"1 + 2 * x", operation(api.OpAdd, number(1), operation(api.OpMul, number(2), variable("x")))},
		{"a - b - c", operation(api.OpSub, operation(api.OpSub, a, b), c)},
		{"a - b + c", operation(api.OpAdd, operation(api.OpSub, a, b), c)},
		{"a + (b - c)", operation(api.OpAdd, a, operation(api.OpSub, b, c))},
		{"a * b * c", operation(api.OpMul, operation(api.OpMul, a, b), c)},
		{"a * (b * c)", operation(api.OpMul, a, operation(api.OpMul, b, c))},
		{"a * b + c", operation(api.OpAdd, operation(api.OpMul, a, b), c)},
		{"(a + b) * c", operation(api.OpMul, operation(api.OpAdd, a, b), c)},
		{"a + b < b * c", operation(api.OpLess, operation(api.OpAdd, a, b), operation(api.OpMul, b, c))},
		{"a == b - c", operation(api.OpEqual, a, operation(api.OpSub, b, c))},
		{"(a < b) == c", operation(api.OpEqual, operation(api.OpLess, a, b), c)},
		{"a - -1", operation(api.OpSub, a, number(-1))},
		{"a-1", operation(api.OpSub, a, number(1))},
		{"a - 0", operation(api.OpSub, a, number(0))},
		{"- 9223372036854775807", number(-9223372036854775807)},
		{"9223372036854775807", number(9223372036854775807)},
		{"-1.f", access(api.EField, "f", number(-1))},
		{"((a))", a},
		{"a.f.g", access(api.EField, "g", access(api.EField, "f", a))},
		{"a.f(b, 1 + c).g()", access(api.ECall, "g", access(api.ECall, "f", a, b, operation(api.OpAdd, number(1), c)))},
		{"(a + b).f", access(api.EField, "f", operation(api.OpAdd, a, b))},
		{"a + b.f", operation(api.OpAdd, a, access(api.EField, "f", b))},
		{"null", api.Expr{Kind: api.ENull}},
		{"this.f", access(api.EField, "f", api.Expr{Kind: api.EThis})},
		{"input()", api.Expr{Kind: api.EInput}},
		{"new A().m()", access(api.ECall, "m", access(api.ENew, "A"))},
		{"A::m(b).f", access(api.EField, "f", api.Expr{Kind: api.EStatic, Of: "A", Name: "m", Kids: []api.Expr{b}})},
		{"A::m()", api.Expr{Kind: api.EStatic, Of: "A", Name: "m"}},
	} {
		if e, at, f := Expr(x.s); f != api.OK || at != 0 || !Same(ofExpr(e), ofExpr(x.want)) {
			t.Errorf("Expr %q: %v %d %d, want %v", x.s, e, at, int(f), x.want)
		}
	}
}

func TestMethod(t *testing.T) { // P8.1
	a := variable("a")
	list := func(exprs ...api.Expr) []api.Expr { return exprs }
	for _, x := range []struct {
		s    string
		want api.Stmt
	}{
		{"var x: int;", api.Stmt{Kind: api.SVar, Name: "x", Type: "int"}},
		{"var x: A = a;", api.Stmt{Kind: api.SVar, Name: "x", Type: "A", Exprs: list(a)}},
		{"x = a;", api.Stmt{Kind: api.SAssign, Name: "x", Exprs: list(a)}},
		{"a.f = 1;", api.Stmt{Kind: api.SStore, Name: "f", Exprs: list(a, number(1))}},
		{"(a).f = 1;", api.Stmt{Kind: api.SStore, Name: "f", Exprs: list(a, number(1))}},
		{"a.g().f = 1;", api.Stmt{Kind: api.SStore, Name: "f", Exprs: list(access(api.ECall, "g", a), number(1))}},
		{"new A().f = a;", api.Stmt{Kind: api.SStore, Name: "f", Exprs: list(access(api.ENew, "A"), a)}},
		{"if (a) { }", api.Stmt{Kind: api.SIf, Exprs: list(a)}},
		{"if (a) { return; } else { throw a; }", api.Stmt{Kind: api.SIf, Exprs: list(a), Body: []api.Stmt{{Kind: api.SReturn}}, Else: []api.Stmt{{Kind: api.SThrow, Exprs: list(a)}}}},
		{"if (a) { return; } else { }", api.Stmt{Kind: api.SIf, Exprs: list(a), Body: []api.Stmt{{Kind: api.SReturn}}}},
		{"while (a) { return a; }", api.Stmt{Kind: api.SWhile, Exprs: list(a), Body: []api.Stmt{{Kind: api.SReturn, Exprs: list(a)}}}},
		{"try { } catch (x: int) { }", api.Stmt{Kind: api.STry, Name: "x", Type: "int"}},
		{"try { return; } catch (x: A) { throw a; }", api.Stmt{Kind: api.STry, Name: "x", Type: "A", Body: []api.Stmt{{Kind: api.SReturn}}, Else: []api.Stmt{{Kind: api.SThrow, Exprs: list(a)}}}},
		{"a.m(1);", api.Stmt{Kind: api.SCall, Exprs: list(access(api.ECall, "m", a, number(1)))}},
		{"(a.m()).m();", api.Stmt{Kind: api.SCall, Exprs: list(access(api.ECall, "m", access(api.ECall, "m", a)))}},
		{"A::m(a);", api.Stmt{Kind: api.SCall, Exprs: list(api.Expr{Kind: api.EStatic, Of: "A", Name: "m", Kids: list(a)})}},
		{"A::m().m();", api.Stmt{Kind: api.SCall, Exprs: list(access(api.ECall, "m", api.Expr{Kind: api.EStatic, Of: "A", Name: "m"}))}},
	} {
		want := api.Method{Name: "m", Static: true, Params: []api.Field{{Name: "p", Type: "int"}, {Name: "q", Type: "A"}}, Result: "A", Body: []api.Stmt{x.want}}
		if m, at, e := Method("static def m(p: int, q: A): A { " + x.s + " }"); e != api.OK || at != 0 || !Same(ofMethod(m), ofMethod(want)) {
			t.Errorf("Method with %q: %v %d %d, want %v", x.s, m, at, int(e), want)
		}
	}
	if m, _, e := Method("def m() { }"); e != api.OK || !Same(ofMethod(m), ofMethod(api.Method{Name: "m"})) {
		t.Errorf("Method without anything: %v %d", m, int(e))
	}
}

func TestProgramClassAndField(t *testing.T) { // P8.1
	class := api.Class{Name: "B", Super: "A", Fields: []api.Field{{Name: "f", Type: "int"}, {Name: "g", Type: "B"}}, Methods: []api.Method{{Name: "m"}, {Name: "n", Static: true}}}
	s := "class B extends A { var f: int; var g: B; def m() { } static def n() { } }"
	if c, at, e := Class(s); e != api.OK || at != 0 || !Same(ofClass(c), ofClass(class)) {
		t.Errorf("Class: %v %d %d", c, at, int(e))
	}
	if c, at, e := Class("class C{}"); e != api.OK || at != 0 || !Same(ofClass(c), ofClass(api.Class{Name: "C"})) {
		t.Errorf("Class: %v %d %d", c, at, int(e))
	}
	if src, at, e := Program("class C { }" + s + "class B{}"); e != api.OK || at != 0 || !Same(src, api.Source{Classes: []api.Class{{Name: "C"}, class, {Name: "B"}}}) {
		t.Errorf("Program: %v %d %d", src, at, int(e))
	}
	for _, empty := range []string{"", " \n", "// class"} {
		if src, at, e := Program(empty); e != api.OK || at != 0 || len(src.Classes) != 0 {
			t.Errorf("Program %q: %v %d %d", empty, src, at, int(e))
		}
	}
	if f, at, e := Field(" var\nx:A ; "); e != api.OK || at != 0 || f != (api.Field{Name: "x", Type: "A"}) {
		t.Errorf("Field: %v %d %d", f, at, int(e))
	}
}

func TestSyntaxErrors(t *testing.T) { // P8.1
	for _, c := range []struct {
		rule, s string
		at      int
		want    api.Errno
	}{
		{"expr", "a < b < c", 6, api.ErrSyntax},
		{"expr", "(a == b < c)", 8, api.ErrSyntax},
		{"program", "class A { def m() { x = ; } }", 24, api.ErrSyntax},
		{"expr", "- 0", 2, api.ErrSyntax},
		{"expr", "- - 1", 2, api.ErrSyntax},
		{"expr", "- x", 2, api.ErrSyntax},
		{"expr", "", 0, api.ErrSyntax},
		{"expr", " // x", 5, api.ErrSyntax},
		{"expr", "a b", 2, api.ErrSyntax},
		{"expr", "f(1)", 1, api.ErrSyntax},
		{"expr", "a.b(1,)", 6, api.ErrSyntax},
		{"expr", "a.b(1", 5, api.ErrSyntax},
		{"expr", "new int()", 4, api.ErrSyntax},
		{"expr", "new A(1)", 6, api.ErrSyntax},
		{"expr", "A::b", 4, api.ErrSyntax},
		{"expr", "a.int", 2, api.ErrSyntax},
		{"expr", "(a", 2, api.ErrSyntax},
		{"expr", "a)", 1, api.ErrSyntax},
		{"expr", "a;", 1, api.ErrSyntax},
		{"field", "var x: int", 10, api.ErrSyntax},
		{"field", "var x: int; ;", 12, api.ErrSyntax},
		{"field", "var x: int = 1;", 11, api.ErrSyntax},
		{"field", "var x: this;", 7, api.ErrSyntax},
		{"method", "def m(a: int,) { }", 13, api.ErrSyntax},
		{"method", "def m() { } def n() { }", 12, api.ErrSyntax},
		{"method", "def static m() { }", 4, api.ErrSyntax},
		{"class", "class A { def m() { } var x: int; }", 22, api.ErrSyntax},
		{"class", "class A { } class B { }", 12, api.ErrSyntax},
		{"class", "class A extends { }", 16, api.ErrSyntax},
		{"class", "class A {", 9, api.ErrSyntax},
		{"program", "class A { } x", 12, api.ErrSyntax},
		{"program", "class A { } }", 12, api.ErrSyntax},
		{"method", "def m() { (x) = 1; }", 14, api.ErrSyntax},
		{"method", "def m() { (x.f) = 1; }", 16, api.ErrSyntax},
		{"method", "def m() { (x.f()); }", 17, api.ErrSyntax},
		{"method", "def m() { (A::f()); }", 18, api.ErrSyntax},
		{"method", "def m() { x.f() = 1; }", 16, api.ErrSyntax},
		{"method", "def m() { x.f; }", 13, api.ErrSyntax},
		{"method", "def m() { x; }", 11, api.ErrSyntax},
		{"method", "def m() { 1; }", 11, api.ErrSyntax},
		{"method", "def m() { new A(); }", 17, api.ErrSyntax},
		{"method", "def m() { this = 1; }", 15, api.ErrSyntax},
		{"method", "def m() { x + 1; }", 12, api.ErrSyntax},
		{"method", "def m() { else { } }", 10, api.ErrSyntax},
		{"method", "def m() { try { } }", 18, api.ErrSyntax},
		{"method", "def m() { if x { } }", 13, api.ErrSyntax},
		{"method", "def m() { ; }", 10, api.ErrSyntax},
		// The errors of the lexer are first, even if they are behind a token that does not fit.
		{"expr", ") 1b", 2, api.ErrSyntax},
		{"expr", ") 99999999999999999999", 2, api.ErrRange},
		{"expr", ") " + strings.Repeat("w", 33), 2, api.ErrTooLong},
		{"program", ") ?", 2, api.ErrSyntax},
		{"method", ") ?", 2, api.ErrSyntax},
		{"class", ") ?", 2, api.ErrSyntax},
		{"field", ") ?", 2, api.ErrSyntax},
		{"program", ")" + strings.Repeat(" ", 65536), 0, api.ErrTooLong},
		{"expr", ")" + strings.Repeat(" ", 65535), 0, api.ErrSyntax},
	} {
		if at, e := outcome(c.rule, c.s); at != c.at || e != c.want {
			t.Errorf("%s %q: %d %d, want %d %d", c.rule, c.s[:min(len(c.s), 60)], at, int(e), c.at, int(c.want))
		}
	}
}

func TestResultsWithErrors(t *testing.T) { // P8.1, R3
	deep := "1" + strings.Repeat(" + 1", 32)
	for _, bad := range []string{"a b", "a ?", deep} {
		method := "def m(p: int): A { var x: int; x = " + bad + "; }"
		class := "class A extends B { var f: int; " + method + " }"
		if e, _, f := Expr(bad); f == api.OK || !Same(ofExpr(e), ofExpr(api.Expr{})) {
			t.Errorf("Expr: %v %d", e, int(f))
		}
		if m, _, f := Method(method); f == api.OK || !Same(ofMethod(m), ofMethod(api.Method{})) {
			t.Errorf("Method: %v %d", m, int(f))
		}
		if c, _, f := Class(class); f == api.OK || !Same(ofClass(c), ofClass(api.Class{})) {
			t.Errorf("Class: %v %d", c, int(f))
		}
		if src, _, f := Program("class C { } " + class); f == api.OK || len(src.Classes) != 0 {
			t.Errorf("Program: %v %d", src, int(f))
		}
		if v, _, f := Field("var f: int" + bad + ";"); f == api.OK || v != (api.Field{}) {
			t.Errorf("Field: %v %d", v, int(f))
		}
	}
}

// methodText returns a method with a number of parameters and a body.
func methodText(params int, body string) string {
	return "def m(" + strings.TrimSuffix(strings.Repeat("p: A, ", params), ", ") + ") { " + body + " } "
}

// classText returns a class with numbers of fields and methods and with more methods.
func classText(fields, methods int, more string) string {
	return "class A { " + strings.Repeat("var f: int; ", fields) + strings.Repeat("def m() { } ", methods) + more + "} "
}

// nested returns a statement that is nested in others until it is this deep.
func nested(depth int) string {
	s := "return;"
	for i := range depth - 1 {
		if i == 0 {
			s = "if (1) { " + s + " }"
			continue
		}
		s = []string{"while (1) { " + s + " }", "if (1) { } else { " + s + " }", "try { " + s + " } catch (e: A) { }", "try { } catch (e: A) { " + s + " }"}[i%4]
	}
	return s
}

// deepExprs are expressions of the given depth.
func deepExprs(depth int) []string {
	right, left, call, static, object, product := "1", "1", "1", "1", "1", "1"
	for range depth - 1 {
		right = "1 - (" + right + ")"
		left += " + 1"
		call = "x.f(1, " + call + ")"
		static = "A::f(" + static + ", 1)"
		object += ".f"
		product = "(((" + product + ")) * 1)"
	}
	return []string{right, left, call, static, object, product}
}

// limitCase is a program with the error of its limits.
type limitCase struct {
	s    string
	want api.Errno
}

func limitCases() []limitCase {
	deep := deepExprs(33)[0]
	return []limitCase{
		{strings.Repeat("class A { } ", 64), api.OK},
		{strings.Repeat("class A { } ", 65), api.ErrTooLong},
		{classText(16, 16, ""), api.OK},
		{classText(17, 16, ""), api.ErrTooLong},
		{classText(16, 17, ""), api.ErrTooLong},
		{classText(17, 0, ""), api.ErrTooLong},
		{classText(0, 17, ""), api.ErrTooLong},
		{classText(0, 0, methodText(6, "")), api.OK},
		{classText(0, 0, methodText(7, "")), api.ErrTooLong},
		{classText(0, 0, methodText(0, strings.Repeat("return; ", 200))), api.OK},
		{classText(0, 0, methodText(0, strings.Repeat("return; ", 201))), api.ErrTooLong},
		{classText(0, 0, strings.Repeat(methodText(0, strings.Repeat("return; ", 200)), 2)), api.OK},
		{classText(0, 0, methodText(0, strings.Repeat("if (1) { return; } else { return; return; } ", 50))), api.OK},
		{classText(0, 0, methodText(0, "return; "+strings.Repeat("if (1) { return; } else { return; return; } ", 50))), api.ErrTooLong},
		{classText(0, 0, methodText(0, strings.Repeat("try { return; return; } catch (e: A) { return; } ", 50)+"return;")), api.ErrTooLong},
		{classText(0, 0, methodText(0, strings.Repeat("while (1) { while (1) { while (1) { return; } } } ", 50))), api.OK},
		{classText(0, 0, methodText(0, strings.Repeat("while (1) { while (1) { while (1) { return; } } } ", 50)+"return;")), api.ErrTooLong},
		{classText(0, 0, methodText(0, nested(32))), api.OK},
		{classText(0, 0, methodText(0, nested(33))), api.ErrDeep},
		{classText(0, 0, methodText(0, "return; "+nested(33)+" return;")), api.ErrDeep},
		{classText(0, 0, methodText(0, "return "+deepExprs(31)[0]+";")), api.OK},
		{classText(0, 0, methodText(0, "return "+deepExprs(32)[0]+";")), api.ErrDeep},
		{classText(0, 0, methodText(0, "x.f = "+deepExprs(31)[1]+";")), api.OK},
		{classText(0, 0, methodText(0, "x.f = "+deepExprs(32)[1]+";")), api.ErrDeep},
		{classText(0, 0, methodText(0, deepExprs(31)[4]+".f = 1;")), api.OK},
		{classText(0, 0, methodText(0, deepExprs(32)[4]+".f = 1;")), api.ErrDeep},
		{classText(0, 0, methodText(0, "while ("+deepExprs(32)[2]+") { }")), api.ErrDeep},
		{classText(0, 0, methodText(0, "if (1) { x = "+deepExprs(30)[3]+"; }")), api.OK},
		{classText(0, 0, methodText(0, "if (1) { x = "+deepExprs(31)[3]+"; }")), api.ErrDeep},
		{classText(0, 0, methodText(0, "if (1) { } else { x = "+deepExprs(31)[3]+"; }")), api.ErrDeep},
		{classText(0, 0, methodText(0, deepExprs(31)[2]+";")), api.OK},
		{classText(0, 0, methodText(0, deepExprs(32)[2]+";")), api.ErrDeep},
		{strings.Repeat("class A { } ", 64) + classText(0, 0, methodText(0, "x = "+deep+";")), api.ErrTooLong},
		{classText(0, 0, methodText(0, "x = "+deep+";")) + strings.Repeat("class A { } ", 64), api.ErrTooLong},
		{classText(0, 0, methodText(0, "x = "+deep+";")) + classText(17, 17, ""), api.ErrDeep},
		{classText(17, 0, "") + classText(0, 0, methodText(0, "x = "+deep+";")), api.ErrTooLong},
		{classText(0, 0, methodText(0, "x = "+deep+";")+strings.Repeat("def m() { } ", 16)), api.ErrTooLong},
		{classText(17, 0, methodText(0, "x = "+deep+";")), api.ErrTooLong},
		{classText(0, 0, methodText(0, "x = "+deep+";")+methodText(7, "")), api.ErrDeep},
		{classText(0, 0, methodText(7, "")+methodText(0, "x = "+deep+";")), api.ErrTooLong},
		{classText(0, 0, methodText(7, "x = "+deep+";")), api.ErrTooLong},
		{classText(0, 0, methodText(0, "x = "+deep+"; "+strings.Repeat("return; ", 200))), api.ErrTooLong},
		{classText(0, 0, methodText(0, "x = "+deep+";")+methodText(0, strings.Repeat("return; ", 201))), api.ErrDeep},
		{classText(0, 0, methodText(0, strings.Repeat("return; ", 201))+methodText(0, "x = "+deep+";")), api.ErrTooLong},
	}
}

func TestLimits(t *testing.T) { // P8.1
	for _, c := range limitCases() {
		s, want := c.s, c.want
		if at, e := outcome("program", s); at != 0 || e != want {
			t.Errorf("Program %q: %d %d, want %d", s, at, int(e), int(want))
		}
		if strings.Count(s, "class") == 1 {
			if at, e := outcome("class", s); at != 0 || e != want {
				t.Errorf("Class %q: %d %d, want %d", s, at, int(e), int(want))
			}
		}
		body := strings.TrimSuffix(strings.TrimPrefix(s, "class A { "), "} ")
		if strings.Count(body, "def") == 1 && !strings.Contains(body, "var f") && !strings.Contains(body, "class") {
			if at, e := outcome("method", body); at != 0 || e != want {
				t.Errorf("Method %q: %d %d, want %d", body, at, int(e), int(want))
			}
		}
		// A token that does not fit is an error before those of the limits.
		if at, e := outcome("program", s+"1"); at != len(s) || e != api.ErrSyntax {
			t.Errorf("Program %q: %d %d, want %d", s+"1", at, int(e), len(s))
		}
	}
	for i, s := range deepExprs(32) {
		if at, e := outcome("expr", s); at != 0 || e != api.OK {
			t.Errorf("Expr %q: %d %d", s, at, int(e))
		}
		deeper := deepExprs(33)[i]
		if at, e := outcome("expr", deeper); at != 0 || e != api.ErrDeep {
			t.Errorf("Expr %q: %d %d", deeper, at, int(e))
		}
		if at, e := outcome("expr", deeper+" )"); at != len(deeper)+1 || e != api.ErrSyntax {
			t.Errorf("Expr %q: %d %d", deeper+" )", at, int(e))
		}
	}
}

func TestManyLevels(t *testing.T) { // P8.1, R1
	for _, unit := range []string{"(", "a.b(", "A::b(", "1+(", "a<(", "a*(", "a.", "a.f().", "1+"} {
		s := strings.Repeat(unit, 65536/len(unit))
		if at, e := outcome("expr", s); at != len(s) || e != api.ErrSyntax {
			t.Errorf("%q many times: %d %d", unit, at, int(e))
		}
	}
	for _, c := range []struct {
		before, after string
		want          api.Errno
	}{{"(", ")", api.OK}, {"a.b(", ")", api.ErrDeep}, {"1-(", ")", api.ErrDeep}, {"", ".f", api.ErrDeep}, {"", "*1", api.ErrDeep}} {
		count := 65535 / len(c.before+c.after)
		s := strings.Repeat(c.before, count) + "x" + strings.Repeat(c.after, count)
		if at, e := outcome("expr", s); at != 0 || e != c.want {
			t.Errorf("x within many %q and %q: %d %d", c.before, c.after, at, int(e))
		}
	}
	for _, unit := range []string{"if(x){", "while(x){", "try{", "try{}catch(e:A){"} {
		s := "def m(){" + strings.Repeat(unit, 65000/len(unit))
		if at, e := outcome("method", s); at != len(s) || e != api.ErrSyntax {
			t.Errorf("%q many times: %d %d", unit, at, int(e))
		}
	}
	count := 65000 / len("if(x){}")
	s := "def m(){" + strings.Repeat("if(x){", count) + strings.Repeat("}", count) + "}"
	if at, e := outcome("method", s); at != 0 || e != api.ErrTooLong {
		t.Errorf("many blocks: %d %d", at, int(e))
	}
}

// exprChanges returns functions that change an expression, each one in another field or list.
func exprChanges(e *api.Expr) []func() {
	all := []func(){
		func() { e.Kind++ }, func() { e.N++ }, func() { e.Of += "x" }, func() { e.Name += "x" },
		func() { e.Kids = append(e.Kids, api.Expr{}) },
	}
	if len(e.Kids) > 0 {
		all = append(all, func() { e.Kids = e.Kids[:len(e.Kids)-1] })
	}
	for i := range e.Kids {
		all = append(all, exprChanges(&e.Kids[i])...)
	}
	return all
}

func stmtChanges(s *api.Stmt) []func() {
	all := []func(){
		func() { s.Kind++ }, func() { s.Name += "x" }, func() { s.Type += "x" },
		func() { s.Exprs = append(s.Exprs, api.Expr{}) }, func() { s.Body = append(s.Body, api.Stmt{}) }, func() { s.Else = append(s.Else, api.Stmt{}) },
	}
	if len(s.Body) != len(s.Else) {
		all = append(all, func() { s.Body, s.Else = s.Else, s.Body })
	}
	for i := range s.Exprs {
		all = append(all, exprChanges(&s.Exprs[i])...)
	}
	for i := range s.Body {
		all = append(all, stmtChanges(&s.Body[i])...)
	}
	for i := range s.Else {
		all = append(all, stmtChanges(&s.Else[i])...)
	}
	return all
}

func methodChanges(m *api.Method) []func() {
	all := []func(){
		func() { m.Name += "x" }, func() { m.Static = !m.Static }, func() { m.Result += "x" },
		func() { m.Params = append(m.Params, api.Field{}) }, func() { m.Body = append(m.Body, api.Stmt{}) },
	}
	for i := range m.Params {
		all = append(all, func() { m.Params[i].Name += "x" }, func() { m.Params[i].Type += "x" })
	}
	for i := range m.Body {
		all = append(all, stmtChanges(&m.Body[i])...)
	}
	return all
}

func sourceChanges(src *api.Source) []func() {
	all := []func(){func() { src.Classes = append(src.Classes, api.Class{}) }, func() { slices.Reverse(src.Classes) }}
	for i := range src.Classes {
		c := &src.Classes[i]
		all = append(all, func() { c.Name += "x" }, func() { c.Super += "x" }, func() { c.Fields = append(c.Fields, api.Field{}) }, func() { c.Methods = append(c.Methods, api.Method{}) })
		for k := range c.Fields {
			all = append(all, func() { c.Fields[k].Name += "x" }, func() { c.Fields[k].Type += "x" })
		}
		for k := range c.Methods {
			all = append(all, methodChanges(&c.Methods[k])...)
		}
	}
	return all
}

const sampleText = `
class A { }
class B extends A {
	var f: int;
	var g: B;
	static def m(p: int, q: A): int {
		var x: int = p + 2 * B::m(1, null);
		if (x < 3) { q.f = 1; } else { return -1; x = input(); }
		while (x == 3) { this.m(x, new A()); }
		try { throw q; return; } catch (e: A) { B::m(1, e); }
	}
	def n() { }
}
`

func TestSame(t *testing.T) { // P8.2
	a, _, _ := Program("class A {}")
	b, _, e := Program("class A { } // x")
	if e != api.OK || !Same(a, b) {
		t.Error("the example")
	}
	whole := func() *api.Source {
		src, _, e := Program(sampleText)
		if e != api.OK {
			t.Fatal("the sample")
		}
		return &src
	}
	if !Same(*whole(), *whole()) {
		t.Error("a source is not the same as itself")
	}
	for i := range sourceChanges(whole()) {
		changed, again := whole(), whole()
		sourceChanges(changed)[i]()
		sourceChanges(again)[i]()
		if Same(*changed, *whole()) || Same(*whole(), *changed) {
			t.Errorf("change %d: %v", i, changed)
		}
		if !Same(*changed, *again) {
			t.Errorf("change %d made twice: %v", i, changed)
		}
	}
}

func TestSameOfAnySources(t *testing.T) { // P8.2
	none := api.Source{}
	empty := api.Source{Classes: []api.Class{}}
	bare := func(kids []api.Expr, stmts []api.Stmt, fields []api.Field, methods []api.Method) api.Source {
		s := api.Stmt{Kind: -7, Exprs: []api.Expr{{Kind: 99, N: -1 << 63, Of: "1", Kids: kids}}, Body: stmts, Else: stmts}
		m := api.Method{Name: "\xff", Params: fields, Body: []api.Stmt{s, {}}}
		return api.Source{Classes: []api.Class{{Fields: fields, Methods: methods}, {Methods: []api.Method{m}}}}
	}
	nils := bare(nil, nil, nil, nil)
	empties := bare([]api.Expr{}, []api.Stmt{}, []api.Field{}, []api.Method{})
	if !Same(none, empty) || !Same(empty, none) || !Same(nils, empties) || !Same(empties, nils) {
		t.Error("nil and empty lists are not the same")
	}
	if Same(none, nils) || Same(empties, empty) {
		t.Error("no classes are the same as some")
	}
	shorter := api.Source{Classes: nils.Classes[:1]}
	if Same(nils, shorter) || Same(shorter, nils) {
		t.Error("a part is the same as the whole")
	}
	deep := func(name string) api.Source {
		e := api.Expr{Name: name}
		for range 60000 {
			e = api.Expr{Kids: []api.Expr{e}}
		}
		return ofExpr(e)
	}
	if !Same(deep("x"), deep("x")) || Same(deep("x"), deep("y")) {
		t.Error("many levels")
	}
}

// memory is the elements of all lists that were met, also those in their spare capacity.
type memory struct {
	shared bool
	exprs  map[*api.Expr]bool
	stmts  map[*api.Stmt]bool
	fields map[*api.Field]bool
}

// claim adds the elements of a list and reports whether one of them was there before.
func claim[T any](seen map[*T]bool, list []T) bool {
	list = list[:cap(list)]
	shared := false
	for i := range list {
		shared = shared || seen[&list[i]]
		seen[&list[i]] = true
	}
	return shared
}

func (m *memory) addExprs(exprs []api.Expr) {
	m.shared = claim(m.exprs, exprs) || m.shared
	for _, e := range exprs {
		m.addExprs(e.Kids)
	}
}

func (m *memory) addStmts(stmts []api.Stmt) {
	m.shared = claim(m.stmts, stmts) || m.shared
	for _, s := range stmts {
		m.addExprs(s.Exprs)
		m.addStmts(s.Body)
		m.addStmts(s.Else)
	}
}

func (m *memory) addMethod(d api.Method) {
	m.shared = claim(m.fields, d.Params) || m.shared
	m.addStmts(d.Body)
}

func (m *memory) addClass(c api.Class) {
	m.shared = claim(m.fields, c.Fields) || m.shared
	for _, d := range c.Methods {
		m.addMethod(d)
	}
}

func TestListsShareNoMemory(t *testing.T) { // R5
	texts := []string{sampleText}
	for seed := range uint(50) {
		w := &writer{maker: maker{seed}}
		w.source((&maker{seed}).source())
		texts = append(texts, w.text())
	}
	m := &memory{exprs: map[*api.Expr]bool{}, stmts: map[*api.Stmt]bool{}, fields: map[*api.Field]bool{}}
	methods := map[*api.Method]bool{}
	for _, s := range slices.Concat(texts, texts) {
		src, _, e := Program(s)
		if e != api.OK {
			t.Fatalf("Program %q: %d", s, int(e))
		}
		for _, c := range src.Classes {
			m.addClass(c)
			m.shared = claim(methods, c.Methods) || m.shared
		}
	}
	for range 2 {
		c, _, _ := Class("class A { var f: int; def m(p: int) { a.f = a.m(1, b.n()); } }")
		m.addClass(c)
		d, _, _ := Method("def m(p: int) { a.b.f = a.m(1, b.n()); x = 1; }")
		m.addMethod(d)
		e, _, _ := Expr("a.m(1, b.n(2) + 3, A::m(x.y))")
		m.addExprs(e.Kids)
	}
	if m.shared {
		t.Error("two lists share memory")
	}
	if len(m.exprs) < 100 || len(m.stmts) < 50 || len(m.fields) < 20 {
		t.Error("too few lists")
	}
}
