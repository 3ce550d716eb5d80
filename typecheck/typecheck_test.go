package typecheck

import (
	"slices"
	"strconv"
	"strings"
	"testing"

	"dataflow/api"
	"dataflow/hier"
	"dataflow/parse"
	"dataflow/samples"
)

// program returns the tree of a text.
func program(t *testing.T, text string) api.Source {
	t.Helper()
	src, at, e := parse.Program(text)
	if e != api.OK {
		t.Fatalf("%s: %d at %d", text, int(e), at)
	}
	return src
}

// expr returns the tree of an expression.
func expr(t *testing.T, text string) api.Expr {
	t.Helper()
	x, at, e := parse.Expr(text)
	if e != api.OK {
		t.Fatalf("%s: %d at %d", text, int(e), at)
	}
	return x
}

// world is a program with the classes that the statements and expressions of the tests use.
const world = `
class A {
	var f: int;
	var g: A;
	def m(a: int, b: A): A { return b; }
	def n() { }
	static def s(a: A): int { return 1; }
}
class B extends A {
	var h: B;
	def m(a: int, b: A): A { return this; }
	static def r() { }
}
class C { }
class Main {
	static def main() { }
`

func TestProgram(t *testing.T) { // P11.1
	for _, c := range []struct {
		result, body string
		at           int
		want         api.Errno
	}{
		{"", "var x: int = 1; x = null;", 1, api.ErrType},
		{"", "", 0, api.OK},
		{"", "var x: int; var y: A; var z: B = null; y = z; x = y.f;", 0, api.OK},
		{"", "var x: D;", 0, api.ErrType},
		{"", "var x: int; var y: int; var x: D;", 2, api.ErrType},
		{"", "var x: int; var y: int; var x: A;", 2, api.ErrExists},
		{"", "var a: int;", 0, api.ErrExists},
		{"", "var x: int = x;", 0, api.ErrUnknown},
		{"", "var x: B = new A();", 0, api.ErrType},
		{"", "var x: A = new B();", 0, api.OK},
		{"", "var x: A = 1;", 0, api.ErrType},
		{"", "var x: int = null;", 0, api.ErrType},
		{"", "var x: int = c.n();", 0, api.ErrType},
		{"", "if (a) { var x: int; } else { var x: A; } var x: B;", 0, api.OK},
		{"", "if (a) { var x: int; } x = 1;", 2, api.ErrUnknown},
		{"", "if (a) { x = 1; } var x: int;", 1, api.ErrUnknown},
		{"", "if (a) { } else { } x = 1;", 1, api.ErrUnknown},
		{"", "var x: int; while (x) { x = x - 1; var y: int; } y = 1;", 4, api.ErrUnknown},
		{"", "var x: int; while (x) { if (x) { var x: A; } }", 3, api.ErrExists},
		{"", "if (c) { y = 1; }", 0, api.ErrType},
		{"", "while (null) { }", 0, api.ErrType},
		{"", "while (y) { }", 0, api.ErrUnknown},
		{"", "y = z;", 0, api.ErrUnknown},
		{"", "a = z;", 0, api.ErrUnknown},
		{"", "a = c;", 0, api.ErrType},
		{"", "c.f = 1; c.g = c; c.g = null; d.f = 1; d.h = d; d.g = d;", 0, api.OK},
		{"", "d.h = d.g;", 0, api.ErrType},
		{"", "c.h = d;", 0, api.ErrUnknown},
		{"", "a.f = y;", 0, api.ErrType},
		{"", "c.f = y;", 0, api.ErrUnknown},
		{"", "c.z = y;", 0, api.ErrUnknown},
		{"", "c.f = c;", 0, api.ErrType},
		{"", "try { var e: int; } catch (e: A) { e = null; } var e: A;", 0, api.OK},
		{"", "try { } catch (e: A) { var e: A; }", 1, api.ErrExists},
		{"", "try { var x: int; } catch (e: A) { x = 1; }", 2, api.ErrUnknown},
		{"", "try { e = null; } catch (e: A) { }", 1, api.ErrUnknown},
		{"", "try { } catch (e: A) { } e = null;", 1, api.ErrUnknown},
		{"", "try { x = 1; } catch (a: A) { }", 0, api.ErrExists},
		{"", "try { } catch (a: int) { }", 0, api.ErrType},
		{"", "try { } catch (e: D) { }", 0, api.ErrType},
		{"", "throw c; throw null; throw d.h;", 0, api.OK},
		{"", "throw a;", 0, api.ErrType},
		{"", "throw c.n();", 0, api.ErrType},
		{"", "throw c.n(1);", 0, api.ErrArity},
		{"", "return;", 0, api.OK},
		{"", "return y;", 0, api.ErrArity},
		{"int", "return;", 0, api.ErrArity},
		{"int", "return y;", 0, api.ErrUnknown},
		{"int", "return c;", 0, api.ErrType},
		{"int", "return c.f;", 0, api.OK},
		{"A", "return d;", 0, api.OK},
		{"B", "return c;", 0, api.ErrType},
		{"B", "return null;", 0, api.OK},
		{"", "c.n(); d.n(); A::s(c); B::s(d); B::r(); c.m(1, d).n();", 0, api.OK},
		{"", "c.n(); y.n();", 1, api.ErrUnknown},
		{"int", "", -1, api.ErrType},
		{"int", "a = 1;", -1, api.ErrType},
		{"int", "return 1; a = 2;", 0, api.OK},
		{"int", "while (1) { return 1; }", -1, api.ErrType},
		{"int", "if (a) { return 1; }", -1, api.ErrType},
		{"int", "if (a) { return 1; } else { throw c; }", 0, api.OK},
		{"int", "try { return 1; } catch (e: A) { }", -1, api.ErrType},
		{"int", "y = 1;", 0, api.ErrUnknown},
	} {
		method := "def k(a: int, c: A, d: B)"
		if c.result != "" {
			method += ": " + c.result
		}
		src := program(t, world+method+" { "+c.body+" } }")
		want := api.Fault{Class: "Main", Method: "k", Stmt: c.at}
		if c.want == api.OK {
			want = api.Fault{}
		}
		if at, e := Program(src); at != want || e != c.want {
			t.Errorf("%s { %s }: %v %d, want %v %d", c.result, c.body, at, int(e), want, int(c.want))
		}
		if at, e := modelProgram(src); at != want || e != c.want {
			t.Errorf("%s { %s }: the model: %v %d", c.result, c.body, at, int(e))
		}
	}
}

func TestProgramHeads(t *testing.T) { // P11.1
	at := func(class, method string) api.Fault { return api.Fault{Class: class, Method: method, Stmt: -1} }
	for text, c := range map[string]struct {
		at   api.Fault
		want api.Errno
	}{
		"class Main { static def main() { } }":                       {api.Fault{}, api.OK},
		"":                                                           {at("Main", ""), api.ErrMain},
		"class A { static def main() { } }":                          {at("Main", ""), api.ErrMain},
		"class Main { static def mains() { } }":                      {at("Main", ""), api.ErrMain},
		"class Main { def main() { } }":                              {at("Main", ""), api.ErrMain},
		"class Main { static def main(a: int) { } }":                 {at("Main", ""), api.ErrMain},
		"class Main { static def main(): int { return 1; } }":        {at("Main", ""), api.ErrMain},
		"class A { static def main() { } } class Main extends A { }": {at("Main", ""), api.ErrMain},
		"class A { def m(a: int, a: int) { } }":                      {at("Main", ""), api.ErrMain},
		"class A extends B { } class B extends A { }":                {at("A", ""), api.ErrCycle},
		"class A { } class B { var f: D; } class C { def n() { x = 1; } def n() {}}":                                              {at("B", ""), api.ErrType},
		"class A { def m(a: int, b: A, a: int) { x = 1; } } class Main { static def main() { } }":                                 {at("A", "m"), api.ErrExists},
		"class A { def m() { } def n() { throw 1; } } class Main { static def main() { x = 1; } }":                                {api.Fault{Class: "A", Method: "n", Stmt: 0}, api.ErrType},
		"class A { def n(): int { } def m() { throw 1; } } class Main { static def main() { } }":                                  {at("A", "n"), api.ErrType},
		"class A { def m() { A::k(); this.n(); } static def k() { this.n(); } def n() { } } class Main { static def main() { } }": {api.Fault{Class: "A", Method: "k", Stmt: 0}, api.ErrUnknown},
	} {
		src := program(t, text)
		if got, e := Program(src); got != c.at || e != c.want {
			t.Errorf("%s: %v %d, want %v %d", text, got, int(e), c.at, int(c.want))
		}
		if got, e := modelProgram(src); got != c.at || e != c.want {
			t.Errorf("%s: the model: %v %d", text, got, int(e))
		}
	}
}

func TestParameters(t *testing.T) { // P11.1
	for _, c := range []struct {
		names string
		want  api.Errno
	}{{"a b", api.OK}, {"a int", api.ErrName}, {"this", api.ErrName}, {"a a 1", api.ErrExists}, {"a 1 a", api.ErrName}, {"$0", api.ErrName}} {
		src := program(t, world+"def k() { throw 1; } }")
		m := &src.Classes[3].Methods[1]
		for _, name := range strings.Fields(c.names) {
			m.Params = append(m.Params, api.Field{Name: name, Type: "int"})
		}
		want, stmt := c.want, -1
		if want == api.OK {
			want, stmt = api.ErrType, 0
		}
		if at, e := Program(src); at != (api.Fault{Class: "Main", Method: "k", Stmt: stmt}) || e != want {
			t.Errorf("%s: %v %d", c.names, at, int(e))
		}
	}
}

func TestTooManyClasses(t *testing.T) { // P11.1
	var src api.Source
	for i := range 65 {
		src.Classes = append(src.Classes, api.Class{Name: "C" + strconv.Itoa(i)})
	}
	if at, e := Program(src); at != (api.Fault{Stmt: -1}) || e != api.ErrTooLong {
		t.Errorf("65 classes: %v %d", at, int(e))
	}
	if typ, e := Expr(src, "X", nil, api.Expr{}); typ != "" || e != api.ErrTooLong {
		t.Errorf("65 classes: %q %d", typ, int(e))
	}
}

// nested returns a sum of this depth.
func nested(depth int) api.Expr {
	e := api.Expr{Kind: api.EInt}
	for range depth - 1 {
		e = api.Expr{Kind: api.EBin, N: api.OpAdd, Kids: []api.Expr{e, {Kind: api.EInt}}}
	}
	return e
}

func TestLimits(t *testing.T) { // P11.1
	throw := api.Stmt{Kind: api.SThrow, Exprs: []api.Expr{{Kind: api.ENull}}}
	deep := throw
	for range 30 {
		deep = api.Stmt{Kind: api.SWhile, Exprs: []api.Expr{{Kind: api.EInput}}, Body: []api.Stmt{deep}}
	}
	deeper := api.Stmt{Kind: api.STry, Name: "e", Type: "C", Else: []api.Stmt{deep}}
	many := api.Stmt{Kind: api.SIf, Exprs: []api.Expr{{Kind: api.EInput}}, Body: slices.Repeat([]api.Stmt{throw}, 100), Else: slices.Repeat([]api.Stmt{throw}, 99)}
	sum := func(depth int) api.Stmt { return api.Stmt{Kind: api.SIf, Exprs: []api.Expr{nested(depth)}} }
	hidden := api.Stmt{Kind: api.SThrow, Exprs: []api.Expr{{Kind: api.ENull}}, Body: []api.Stmt{deeper}}
	for _, c := range []struct {
		what string
		body []api.Stmt
		at   int
		want api.Errno
	}{
		{"200 statements", []api.Stmt{many}, 0, api.OK},
		{"201 statements", []api.Stmt{many, throw}, -1, api.ErrTooLong},
		{"201 statements and a deep one", []api.Stmt{many, deeper, deeper}, -1, api.ErrTooLong},
		{"201 statements of no kind", make([]api.Stmt, 201), -1, api.ErrTooLong},
		{"a statement of depth 32", []api.Stmt{deep}, 0, api.OK},
		{"one of depth 33", []api.Stmt{{}, deeper}, -1, api.ErrDeep},
		{"one of depth 33 where none may be", []api.Stmt{hidden}, -1, api.ErrDeep},
		{"a condition of depth 31", []api.Stmt{sum(31)}, 0, api.OK},
		{"a condition of depth 32", []api.Stmt{sum(32)}, -1, api.ErrDeep},
	} {
		src := program(t, world+"def k() { } }")
		src.Classes[3].Methods[1].Body = c.body
		want := api.Fault{Class: "Main", Method: "k", Stmt: c.at}
		if c.want == api.OK {
			want = api.Fault{}
		}
		if at, e := Program(src); at != want || e != c.want {
			t.Errorf("%s: %v %d, want %v %d", c.what, at, int(e), want, int(c.want))
		}
		src.Classes[3].Methods[1].Params = []api.Field{{Name: "1", Type: "int"}}
		if at, e := Program(src); c.want != api.OK && (at != want || e != c.want) {
			t.Errorf("%s, and a parameter: %v %d", c.what, at, int(e))
		}
	}
}

func TestProgramLikeTheModel(t *testing.T) { // P11.1
	seen := map[api.Errno]int{}
	for seed := range uint(20000) {
		src := mutant(seed, 1+int(seed%2))
		want, e := modelProgram(src)
		seen[e]++
		if at, f := Program(src); at != want || f != e {
			t.Fatalf("seed %d: %v %d, want %v %d", seed, at, int(f), want, int(e))
		}
	}
	for _, e := range []api.Errno{api.OK, api.ErrInvalid, api.ErrName, api.ErrUnknown, api.ErrExists, api.ErrType, api.ErrArity, api.ErrCycle, api.ErrOverride, api.ErrKind, api.ErrMain} {
		if seen[e] < 20 {
			t.Errorf("error %d occurs %d times", int(e), seen[e])
		}
	}
}

func TestExpr(t *testing.T) { // P11.2
	scope := []api.Field{{Name: "x", Type: "int"}, {Name: "a", Type: "A"}, {Name: "b", Type: "B"}, {Name: "c", Type: "C"}}
	src := program(t, world+"}")
	for _, c := range []struct {
		class, text, typ string
		want             api.Errno
	}{
		{"", "x + 1", "int", api.OK},
		{"", "x.f", "", api.ErrType},
		{"", "null", "null", api.OK},
		{"", "input() * -3", "int", api.OK},
		{"", "this", "", api.ErrUnknown},
		{"B", "this", "B", api.OK},
		{"", "y", "", api.ErrUnknown},
		{"", "f", "", api.ErrUnknown},
		{"", "b", "B", api.OK},
		{"", "new C()", "C", api.OK},
		{"", "new D()", "", api.ErrUnknown},
		{"", "x < y", "", api.ErrUnknown},
		{"", "a < y", "", api.ErrUnknown},
		{"", "a < x", "", api.ErrType},
		{"", "x - a", "", api.ErrType},
		{"", "a * b", "", api.ErrType},
		{"", "null + null", "", api.ErrType},
		{"", "x == 1", "int", api.OK},
		{"", "a == b", "int", api.OK},
		{"", "b == a", "int", api.OK},
		{"", "a == c", "", api.ErrType},
		{"", "null == c", "int", api.OK},
		{"", "c == null", "int", api.OK},
		{"", "null == null", "int", api.OK},
		{"", "null == x", "", api.ErrType},
		{"", "x == null", "", api.ErrType},
		{"", "x == a", "", api.ErrType},
		{"", "a.n() == a.n()", "", api.ErrType},
		{"", "a.n() == null", "", api.ErrType},
		{"", "b.f", "int", api.OK},
		{"", "b.g.g", "A", api.OK},
		{"", "a.h", "", api.ErrUnknown},
		{"", "null.f", "", api.ErrType},
		{"", "y.f", "", api.ErrUnknown},
		{"", "a.n().f", "", api.ErrType},
		{"", "a.n()", "", api.OK},
		{"", "a.m(1, b)", "A", api.OK},
		{"", "b.m(x, null).g", "A", api.OK},
		{"", "c.n()", "", api.ErrUnknown},
		{"", "x.n()", "", api.ErrType},
		{"", "null.n()", "", api.ErrType},
		{"", "y.n(z)", "", api.ErrUnknown},
		{"", "a.s(a)", "", api.ErrUnknown},
		{"", "a.m(y)", "", api.ErrArity},
		{"", "a.m(1, b, y)", "", api.ErrArity},
		{"", "a.m(a, y)", "", api.ErrType},
		{"", "a.m(y, 1)", "", api.ErrUnknown},
		{"", "a.m(1, c)", "", api.ErrType},
		{"", "a.m(1, a.n())", "", api.ErrType},
		{"", "A::s(b)", "int", api.OK},
		{"", "B::s(b)", "int", api.OK},
		{"", "B::r()", "", api.OK},
		{"", "A::r()", "", api.ErrUnknown},
		{"", "D::s(y)", "", api.ErrUnknown},
		{"", "A::n()", "", api.ErrUnknown},
		{"", "A::s()", "", api.ErrArity},
		{"", "A::s(y)", "", api.ErrUnknown},
		{"", "A::s(x)", "", api.ErrType},
		{"", "Main::main()", "", api.OK},
		{"D", "y", "", api.ErrUnknown},
		{"int", "1", "", api.ErrUnknown},
		{"null", "1", "", api.ErrUnknown},
	} {
		if typ, e := Expr(src, c.class, scope, expr(t, c.text)); typ != c.typ || e != c.want {
			t.Errorf("%s in %q: %q %d, want %q %d", c.text, c.class, typ, int(e), c.typ, int(c.want))
		}
	}
}

func TestExprArguments(t *testing.T) { // P11.2
	src := program(t, world+"}")
	bad := program(t, "class A { } class A { }")
	v := func(name, typ string) api.Field { return api.Field{Name: name, Type: typ} }
	for _, c := range []struct {
		what  string
		src   api.Source
		class string
		scope []api.Field
		e     api.Expr
		want  api.Errno
	}{
		{"no program needs a main", program(t, "class A { def m() { x = 1; } }"), "A", nil, nested(1), api.OK},
		{"no classes", api.Source{}, "", nil, nested(1), api.OK},
		{"a bad hierarchy", bad, "X", []api.Field{v("1", "X")}, nested(33), api.ErrExists},
		{"no such class", src, "X", []api.Field{v("1", "X")}, nested(33), api.ErrUnknown},
		{"a bad name", src, "A", []api.Field{v("a", "A"), v("1", "X")}, nested(33), api.ErrName},
		{"a bad type", src, "A", []api.Field{v("a", "A"), v("a", "X")}, nested(33), api.ErrType},
		{"no type", src, "A", []api.Field{v("a", "")}, nested(33), api.ErrType},
		{"the type of null", src, "A", []api.Field{v("a", "null")}, nested(33), api.ErrType},
		{"the same name", src, "A", []api.Field{v("a", "A"), v("a", "int"), v("1", "A")}, nested(33), api.ErrExists},
		{"this as a name", src, "A", []api.Field{v("this", "A")}, nested(1), api.ErrName},
		{"a depth of 32", src, "A", []api.Field{v("a", "A")}, nested(32), api.OK},
		{"a depth of 33", src, "A", []api.Field{v("a", "A")}, nested(33), api.ErrDeep},
		{"a deep one of no kind", src, "", nil, api.Expr{Kids: []api.Expr{nested(32)}}, api.ErrDeep},
		{"no kind", src, "", nil, api.Expr{}, api.ErrKind},
		{"a kind that is too great", src, "", nil, api.Expr{Kind: 11}, api.ErrKind},
		{"no operator", src, "", nil, api.Expr{Kind: api.EBin}, api.ErrKind},
		{"an operator that is too great", src, "", nil, api.Expr{Kind: api.EBin, N: 6}, api.ErrKind},
		{"no operands", src, "", nil, api.Expr{Kind: api.EBin, N: 1}, api.ErrInvalid},
		{"a number with a kid", src, "", nil, api.Expr{Kind: api.EInt, Kids: []api.Expr{{}}}, api.ErrInvalid},
		{"no receiver", src, "", nil, api.Expr{Kind: api.ECall, Name: "n"}, api.ErrInvalid},
		{"no object", src, "", nil, api.Expr{Kind: api.EField, Name: "f"}, api.ErrInvalid},
		{"two objects", src, "A", nil, api.Expr{Kind: api.EField, Name: "f", Kids: []api.Expr{{Kind: api.EThis}, {Kind: api.EThis}}}, api.ErrInvalid},
		{"fields that are not used", src, "A", nil, api.Expr{Kind: api.EThis, Name: "1", Of: "X", N: 9}, api.OK},
	} {
		if typ, e := Expr(c.src, c.class, c.scope, c.e); e != c.want || e != api.OK && typ != "" {
			t.Errorf("%s: %q %d, want %d", c.what, typ, int(e), int(c.want))
		}
		if typ, e := modelExpr(c.src, c.class, c.scope, c.e); e != c.want || e != api.OK && typ != "" {
			t.Errorf("%s: the model: %q %d", c.what, typ, int(e))
		}
	}
}

// trees returns expressions over some operands: those of all kinds, with as many Kids as they may have and others.
func trees(kids []api.Expr) []api.Expr {
	var list []api.Expr
	for _, a := range kids {
		for _, name := range []string{"f", "g", "n", "s", "z"} {
			list = append(list, api.Expr{Kind: api.EField, Name: name, Kids: []api.Expr{a}}, api.Expr{Kind: api.ECall, Name: name, Kids: []api.Expr{a}})
			list = append(list, api.Expr{Kind: api.EStatic, Of: "B", Name: name, Kids: []api.Expr{a}}, api.Expr{Kind: api.EStatic, Of: "Z", Name: name, Kids: []api.Expr{a}})
		}
		for _, b := range kids {
			for op := range int64(7) {
				list = append(list, api.Expr{Kind: api.EBin, N: op, Kids: []api.Expr{a, b}})
			}
			list = append(list, api.Expr{Kind: api.ECall, Name: "m", Kids: []api.Expr{{Kind: api.EVar, Name: "b"}, a, b}})
		}
		list = append(list, api.Expr{Kind: api.EThis, Kids: []api.Expr{a}}, api.Expr{Kind: api.EBin, N: 1, Kids: []api.Expr{a}})
	}
	return list
}

func TestExprLikeTheModel(t *testing.T) { // P11.2
	src := program(t, world+"}")
	scope := []api.Field{{Name: "x", Type: "int"}, {Name: "a", Type: "A"}, {Name: "b", Type: "B"}, {Name: "c", Type: "C"}}
	var leaves []api.Expr
	for kind := range 12 {
		leaves = append(leaves, api.Expr{Kind: kind, N: 1, Of: "A", Name: "m"})
	}
	for _, text := range []string{"x", "a", "b", "c", "z", "new A()", "new Z()", "A::s()", "B::r()"} {
		leaves = append(leaves, expr(t, text))
	}
	two := trees(leaves)
	var some []api.Expr
	for i := 0; i < len(two); i += 97 {
		some = append(some, two[i])
	}
	seen := map[string]int{}
	for i, x := range slices.Concat(leaves, two, trees(some)) {
		class := []string{"", "A", "B"}[i%3]
		typ, e := modelExpr(src, class, scope, x)
		seen[typ+" "+strconv.Itoa(int(e))]++
		if got, f := Expr(src, class, scope, x); got != typ || f != e {
			t.Fatalf("%v in %q: %q %d, want %q %d", x, class, got, int(f), typ, int(e))
		}
	}
	for _, key := range []string{"int 0", "A 0", "B 0", "null 0", " 0", " 1", " 6", " 8", " 9", " 12"} {
		if seen[key] == 0 {
			t.Errorf("no expression has %s", key)
		}
	}
}

// hierarchies returns all hierarchies of up to three classes over some names.
func hierarchies(names ...string) []api.Hier {
	var classes []api.ClassDecl
	for _, name := range names {
		for _, super := range names {
			classes = append(classes, api.ClassDecl{Name: name, Super: super})
		}
	}
	list := []api.Hier{{}}
	for first := 0; first < len(list); first++ {
		if h := list[first]; len(h.Classes) < 3 {
			for _, c := range classes {
				list = append(list, api.Hier{Classes: append(slices.Clone(h.Classes), c)})
			}
		}
	}
	return list
}

func TestTypesLikeTheModel(t *testing.T) { // P11.3
	names := []string{"A", "B", "", "int", "null"}
	for _, h := range hierarchies(names...) {
		for _, a := range append(names, "X") {
			if got, want := Type(h, a), a == "int" || modelClass(h, a); got != want {
				t.Fatalf("Type %v %q: %t", h, a, got)
			}
			for _, b := range append(names, "X") {
				if got, want := Assignable(h, a, b), modelAssignable(h, a, b); got != want {
					t.Fatalf("Assignable %v %q %q: %t", h, a, b, got)
				}
			}
		}
	}
}

func TestTypes(t *testing.T) { // P11.3
	h := hier.Of(program(t, world+"}"))
	for pair, want := range map[[2]string]bool{
		{"null", "int"}: false, {"null", "A"}: true, {"null", "null"}: false, {"null", "X"}: false,
		{"int", "int"}: true, {"int", "A"}: false, {"A", "int"}: false,
		{"A", "A"}: true, {"B", "A"}: true, {"A", "B"}: false, {"C", "A"}: false,
		{"X", "X"}: false, {"", ""}: false, {"", "A"}: false, {"A", ""}: false,
	} {
		if got := Assignable(h, pair[0], pair[1]); got != want {
			t.Errorf("Assignable %q: %t", pair, got)
		}
	}
	for name, want := range map[string]bool{"int": true, "A": true, "Main": true, "null": false, "": false, "X": false} {
		if got := Type(h, name); got != want {
			t.Errorf("Type %q: %t", name, got)
		}
	}
}

func TestReturns(t *testing.T) { // P11.3
	block := func(text string) []api.Stmt {
		m, _, e := parse.Method("def m() { " + text + " }")
		if e != api.OK {
			t.Fatal(text)
		}
		return m.Body
	}
	for text, want := range map[string]bool{
		"":                                     false,
		"return;":                              true,
		"throw x;":                             true,
		"x = 1; return; x = 2;":                true,
		"while (1) { return; }":                false,
		"if (x) { return; }":                   false,
		"if (x) { } else { return;}":           false,
		"if (x) { return; } else { throw x; }": true,
		"try { return; } catch (e: A) { }":     false,
		"try { } catch (e: A) { return; }":     false,
		"try { throw e; } catch (e: A) { x = 1; return 1; }":        true,
		"if (x) { if (y) { return; } else { return; } } else { }":   false,
		"if (x) { } if (x) { return; } else { return; }":            true,
		"while (x) { if (x) { return; } else { return; } } x.m();":  false,
		"if (x) { while (1) { return; } } else { return; } x = 1; ": false,
	} {
		if got := Returns(block(text)); got != want || modelReturns(block(text)) != want {
			t.Errorf("Returns { %s }: %t", text, got)
		}
	}
	out := []api.Stmt{{Kind: api.SReturn}}
	for kind := range 12 {
		for _, s := range []api.Stmt{{Kind: kind}, {Kind: kind, Body: out}, {Kind: kind, Else: out}, {Kind: kind, Body: out, Else: out}} {
			body := []api.Stmt{{}, s, {}}
			if got := Returns(body); got != modelReturns(body) {
				t.Errorf("Returns %v: %t", body, got)
			}
		}
	}
	deep := out
	for range 60000 {
		deep = []api.Stmt{{Kind: api.SIf, Body: deep, Else: out}}
	}
	if !Returns(deep) {
		t.Error("Returns of a deep body")
	}
}

func TestAssignableIsAnOrder(t *testing.T) { // P11.4
	types := []string{"A", "B", "C", "int", "null", ""}
	for _, h := range hierarchies("A", "B", "C", "") {
		if _, e := hier.Check(h); e != api.OK {
			continue
		}
		for _, a := range types {
			if Type(h, a) && !Assignable(h, a, a) {
				t.Fatalf("%q is not assignable to itself in %v", a, h)
			}
			for _, b := range types {
				for _, c := range types {
					if Assignable(h, a, b) && Assignable(h, b, c) && !Assignable(h, a, c) {
						t.Fatalf("%q %q %q in %v", a, b, c, h)
					}
				}
			}
		}
	}
}

// walk calls a function for all expressions in statements, with the variables in scope.
func walk(scope []api.Field, stmts []api.Stmt, see func([]api.Field, api.Expr)) {
	var each func(x api.Expr)
	each = func(x api.Expr) {
		see(scope, x)
		for _, kid := range x.Kids {
			each(kid)
		}
	}
	for _, s := range stmts {
		for _, x := range s.Exprs {
			each(x)
		}
		walk(scope, s.Body, see)
		switch s.Kind {
		case api.STry:
			walk(in(scope, s.Name, s.Type), s.Else, see)
		case api.SVar:
			scope = in(scope, s.Name, s.Type)
		default:
			walk(scope, s.Else, see)
		}
	}
}

func TestExpressionsHaveTypes(t *testing.T) { // P11.4
	for seed := range uint(150) {
		src := samples.Program(seed, 2)
		if at, e := Program(src); e != api.OK {
			t.Fatalf("seed %d: %v %d", seed, at, int(e))
		}
		for _, c := range src.Classes {
			for _, m := range c.Methods {
				class := c.Name
				if m.Static {
					class = ""
				}
				walk(m.Params, m.Body, func(scope []api.Field, x api.Expr) {
					if typ, e := Expr(src, class, scope, x); e != api.OK {
						t.Fatalf("seed %d: %v: %q %d", seed, x, typ, int(e))
					}
				})
			}
		}
	}
}

func TestArgumentsStay(t *testing.T) { // R5
	for seed := range uint(300) {
		src := mutant(seed, 1)
		Program(src)
		if !parse.Same(src, mutant(seed, 1)) {
			t.Fatalf("seed %d: Program changes its argument", seed)
		}
	}
	all := []api.Field{{Name: "x", Type: "int"}, {Name: "y", Type: "int"}}
	Expr(program(t, world+"}"), "A", all[:1], expr(t, "x + this.f"))
	if all[1].Name != "y" || all[0].Name != "x" {
		t.Error("Expr changes its scope")
	}
}

func TestEndlessTrees(t *testing.T) { // R1
	src := program(t, world+"def k() { } }")
	body := []api.Stmt{{Kind: api.SWhile, Exprs: []api.Expr{{Kind: api.EInput}}}}
	body[0].Body = body
	src.Classes[3].Methods[1].Body = body
	if at, e := Program(src); e != api.ErrTooLong || at.Stmt != -1 {
		t.Errorf("an endless statement: %v %d", at, int(e))
	}
	kids := []api.Expr{{Kind: api.EBin, N: 1}, {Kind: api.EInt}}
	kids[0].Kids = kids
	src.Classes[3].Methods[1].Body = []api.Stmt{{Kind: api.SThrow, Exprs: kids[:1]}}
	if at, e := Program(src); e != api.ErrDeep || at.Stmt != -1 {
		t.Errorf("an endless expression: %v %d", at, int(e))
	}
	if typ, e := Expr(src, "", nil, kids[0]); typ != "" || e != api.ErrDeep {
		t.Errorf("an endless expression: %q %d", typ, int(e))
	}
}
