package lower

import (
	"math"
	"runtime"
	"slices"
	"strconv"
	"strings"
	"testing"

	"dataflow/api"
	"dataflow/hier"
	"dataflow/ir"
	"dataflow/parse"
	"dataflow/samples"
	"dataflow/typecheck"
)

// program returns the tree of a text.
func program(t *testing.T, text string) api.Source {
	t.Helper()
	src, at, e := parse.Program(text)
	if e != api.OK {
		t.Fatalf("%s: %d at %d", text, int(e), at)
	}
	return src
}

const main = " class Main { static def main() { } }"

// world are classes for the statements of the tests.
const world = `
class A {
	var f: int;
	var g: A;
	def m(a: int, b: A): A { return b; }
	def n() { }
	static def s(a: A): int { return 1; }
}
class B extends A { } `

// method returns the function of a method k of a class Main with this text.
func method(t *testing.T, head, body string) api.Func {
	t.Helper()
	src := program(t, world+"class Main { static def main() { } "+head+" { "+body+" } }")
	f, e := Method(src, "Main", "k")
	if e != api.OK {
		t.Fatalf("%s { %s }: %d", head, body, int(e))
	}
	return f
}

// text returns the instructions of a function in short lines: the handler, the operation and the fields that are not zero.
func text(f api.Func) string {
	names := []string{"nop", "const", "null", "copy", "bin", "input", "new", "load", "store", "call", "static", "branch", "jump", "return", "throw", "catch", "shift"}
	var lines []string
	for _, i := range f.Code {
		words := []string{strconv.Itoa(i.Catch), names[i.Op]}
		for _, field := range []struct {
			letter string
			n      int
		}{{"d", i.Dst}, {"a", i.A}, {"b", i.B}, {"n", int(i.N)}, {"g", i.Goto}} {
			if field.n != 0 {
				words = append(words, field.letter+strconv.Itoa(field.n))
			}
		}
		for _, v := range i.Args {
			words = append(words, strconv.Itoa(v))
		}
		lines = append(lines, strings.Join(append(words, strings.Fields(i.Class+" "+i.Name)...), " "))
	}
	return strings.Join(lines, "; ")
}

// variables returns the variables of a function.
func variables(f api.Func) string {
	var list []string
	for _, v := range f.Vars {
		list = append(list, v.Name+":"+v.Type)
	}
	return strings.Join(list, " ")
}

func TestExample(t *testing.T) { // P12.1
	u, e := Program(program(t, "class Main { static def main() { var x: int = input(); } }"))
	if e != api.OK || len(u.Funcs) != 1 || u.Main != 0 || len(u.Hier.Classes) != 1 {
		t.Fatalf("Program: %v %d", u, int(e))
	}
	f := u.Funcs[0]
	if variables(f) != "x:int $0:int" || text(f) != "-1 input d1; -1 copy a1; -1 return a-1" || f.Class != "Main" || f.Name != "main" || !f.Static || f.Params != 0 || f.Result != "" {
		t.Errorf("Program: %v", u)
	}
}

func TestStatements(t *testing.T) { // P12.1
	for _, c := range []struct{ head, body, vars, code string }{
		{"def k()", "", "this:Main", "-1 return a-1"},
		{"static def k()", "", "", "-1 return a-1"},
		{"def k(): int", "return 7;", "this:Main $0:int $1:int", "-1 const d1 n7; -1 return a1; -1 const d2; -1 return a2"},
		{"def k(): A", "return null;", "this:Main $0:null $1:null", "-1 null d1; -1 return a1; -1 null d2; -1 return a2"},
		{"def k(): Main", "return this;", "this:Main $0:null", "-1 return; -1 null d1; -1 return a1"},
		{"static def k(a: int, b: B)", "return;", "a:int b:B", "-1 return a-1; -1 return a-1"},
		{"def k(a: int)", "var x: int; var y: int = a; x = y;", "this:Main a:int x:int y:int", "-1 copy d3 a1; -1 copy d2 a3; -1 return a-1"},
		{"static def k(b: B)", "b.g = b.g; b.f = 3;", "b:B $0:A $1:int", "-1 load d1 g; -1 store b1 g; -1 const d2 n3; -1 store b2 f; -1 return a-1"},
		{"static def k(b: B)", "b.m(1, b).n(); A::s(b); B::s(b.g);", "b:B $0:int $1:A $2:A", "-1 const d1 n1; -1 call d2 1 0 B m; -1 call d-1 a2 A n; -1 static d-1 0 A s; -1 load d3 g; -1 static d-1 3 A s; -1 return a-1"},
		{"static def k(a: int)", "a = B::s(new B());", "a:int $0:B $1:int", "-1 new d1 B; -1 static d2 1 A s; -1 copy a2; -1 return a-1"},
		{"static def k(a: int)", "throw null; throw new A();", "a:int $0:null $1:A", "-1 null d1; -1 throw a1; -1 new d2 A; -1 throw a2; -1 return a-1"},
		{"static def k(a: int)", "if (a) { a = 1; } else { a = 2; }", "a:int $0:int $1:int", "-1 branch g4; -1 const d1 n2; -1 copy a1; -1 jump g6; -1 const d2 n1; -1 copy a2; -1 return a-1"},
		{"static def k(a: int)", "if (a) { }", "a:int", "-1 branch g2; -1 jump g2; -1 return a-1"},
		{"static def k(a: int)", "while (a < 3) { a = a + 1; }", "a:int $0:int $1:int $2:int", "-1 const d1 n3; -1 bin d2 b1 n4; -1 branch a2 g4; -1 jump g7; -1 shift d3 n1; -1 copy a3; -1 jump; -1 return a-1"},
		{"static def k(a: int)", "a = a; while (a) { }", "a:int", "-1 copy; -1 branch g3; -1 jump g4; -1 jump g1; -1 return a-1"},
		{"static def k()", "try { throw null; } catch (e: A) { throw e; }", "e:A $0:null", "3 null d1; 3 throw a1; -1 jump g5; -1 catch A; -1 throw; -1 return a-1"},
		{"static def k()", "try { } catch (e: A) { }", "e:A", "-1 jump g2; -1 catch A; -1 return a-1"},
		{"static def k()", "try { var x: A = null; try { throw x; } catch (x1: A) { throw x1; } x = x; } catch (x: B) { throw x; }", "x:A x1:A x:B $0:null", "8 null d3; 8 copy a3; 4 throw; 8 jump g6; 8 catch d1 A; 8 throw a1; 8 copy; -1 jump g10; -1 catch d2 B; -1 throw a2; -1 return a-1"},
		{"static def k()", "try { try { A::s(null); } catch (e: A) { } } catch (e: B) { A::s(null); }", "e:A e:B $0:null $1:null", "3 null d2; 3 static d-1 2 A s; 5 jump g4; 5 catch A; -1 jump g8; -1 catch d1 B; -1 null d3; -1 static d-1 3 A s; -1 return a-1"},
		{"static def k(a: int)", "if (a) { var x: int = a; } else { var y: A = null; var x: B = null; }", "a:int x:int y:A x:B $0:null $1:null", "-1 branch g6; -1 null d4; -1 copy d2 a4; -1 null d5; -1 copy d3 a5; -1 jump g7; -1 copy d1; -1 return a-1"},
		{"static def k(a: int)", "if (a) { a = 1; try { } catch (e: A) { } } else { a = 2; var x: int; if (a) { } else { var y: int; } } var z: int = 3;", "a:int e:A x:int y:int z:int $0:int $1:int $2:int", "-1 branch g6; -1 const d5 n2; -1 copy a5; -1 branch g5; -1 jump g5; -1 jump g10; -1 const d6 n1; -1 copy a6; -1 jump g10; -1 catch d1 A; -1 const d7 n3; -1 copy d4 a7; -1 return a-1"},
	} {
		f := method(t, c.head, c.body)
		if variables(f) != c.vars || text(f) != c.code {
			t.Errorf("%s { %s }: %s | %s, want %s | %s", c.head, c.body, variables(f), text(f), c.vars, c.code)
		}
	}
}

func TestExpressions(t *testing.T) { // P12.1
	for _, c := range []struct{ expr, typ, code string }{
		{"0", "int", "const d3"},
		{"-5", "int", "const d3 n-5"},
		{"null", "A", "null d3"},
		{"input()", "int", "input d3"},
		{"new B()", "B", "new d3 B"},
		{"a + 5", "int", "shift d3 n5"},
		{"a - 5", "int", "shift d3 n-5"},
		{"a - -5", "int", "shift d3 n5"},
		{"5 + a", "int", "const d3 n5; bin d4 a3 n1"},
		{"a - a", "int", "bin d3 n2"},
		{"a * 5", "int", "const d3 n5; bin d4 b3 n3"},
		{"a < 5", "int", "const d3 n5; bin d4 b3 n4"},
		{"5 == a", "int", "const d3 n5; bin d4 a3 n5"},
		{"1 + 2", "int", "const d3 n1; shift d4 a3 n2"},
		{"1 - (2 + 3)", "int", "const d3 n1; const d4 n2; shift d5 a4 n3; bin d6 a3 b5 n2"},
		{"b == null", "int", "null d3; bin d4 a1 b3 n5"},
		{"b.g.g.f", "int", "load d3 a1 g; load d4 a3 g; load d5 a4 f"},
		{"b.m(input(), null)", "A", "input d3; null d4; call d5 a1 3 4 B m"},
		{"b.m(a, b).m(a, b.g)", "A", "call d3 a1 0 1 B m; load d4 a1 g; call d5 a3 0 4 A m"},
		{"B::s(b)", "int", "static d3 1 A s"},
	} {
		f := method(t, "static def k(a: int, b: B)", "var x: "+c.typ+" = "+c.expr+";")
		want := "-1 " + strings.ReplaceAll(c.code, "; ", "; -1 ")
		last := strconv.Itoa(len(f.Vars) - 1)
		if want += "; -1 copy d2 a" + last + "; -1 return a-1"; text(f) != want {
			t.Errorf("%s: %s, want %s", c.expr, text(f), want)
		}
	}
}

// find returns the index of a function of a unit.
func find(u api.Unit, class, method string) int {
	return slices.IndexFunc(u.Funcs, func(f api.Func) bool { return f.Class == class && f.Name == method })
}

func TestShiftOfTheLeastNumber(t *testing.T) { // P12.1
	src := program(t, "class Main { static def main() { var x: int = 1 - 2; } }")
	src.Classes[0].Methods[0].Body[0].Exprs[0].Kids[1].N = math.MinInt64
	if f, e := Method(src, "Main", "main"); e != api.OK || f.Code[1].Op != api.IShift || f.Code[1].N != math.MinInt64 {
		t.Errorf("Method: %v %d", f, int(e))
	}
}

func TestUnit(t *testing.T) { // P12.1
	src := program(t, "class B extends A { def m(a: int): int { return 1; } static def main() { } } class Main { def a() { } static def main() { } def z(): Main { return this; } } class A { def m(a: int): int { return 2; } }")
	u, e := Program(src)
	var names []string
	for _, f := range u.Funcs {
		names = append(names, f.Class+"."+f.Name+" "+strconv.Itoa(f.Params)+" "+f.Result+strconv.FormatBool(f.Static))
	}
	want := "B.m 2 intfalse,B.main 0 true,Main.a 1 false,Main.main 0 true,Main.z 1 Mainfalse,A.m 2 intfalse"
	if got := strings.Join(names, ","); e != api.OK || got != want || u.Main != 3 || !sameHier(u.Hier, hier.Of(src)) {
		t.Errorf("Program: %v %d, want %s", u, int(e), want)
	}
}

func TestLikeTheModel(t *testing.T) { // P12.1
	for seed := range uint(3000) {
		src := samples.Program(seed, 1+int(seed%4))
		u, e := Program(src)
		if e != api.OK || !sameHier(u.Hier, hier.Of(src)) || u.Main != find(u, "Main", "main") {
			t.Fatalf("seed %d: %d", seed, int(e))
		}
		k := 0
		for _, c := range src.Classes {
			for _, m := range c.Methods {
				want := modelFunction(u.Hier, c.Name, m)
				if got := u.Funcs[k]; !sameFunc(got, want) {
					t.Fatalf("seed %d: %s: %s | %s, want %s | %s", seed, m.Name, variables(got), text(got), variables(want), text(want))
				}
				if seed%10 == 0 {
					if got, e := Method(src, c.Name, m.Name); e != api.OK || !sameFunc(got, want) {
						t.Fatalf("seed %d: Method %s %s: %d", seed, c.Name, m.Name, int(e))
					}
				}
				k++
			}
		}
		if k != len(u.Funcs) {
			t.Fatalf("seed %d: %d functions", seed, len(u.Funcs))
		}
	}
}

func TestErrors(t *testing.T) { // P12.1
	for text, want := range map[string]api.Errno{
		"class Main { static def main() { x = 1; } }":              api.ErrUnknown,
		"class Main { def main() { } }":                            api.ErrMain,
		"class Main extends Main { static def main() { } }":        api.ErrCycle,
		"class Main { static def main() { throw 1; } }":            api.ErrType,
		"class A { def m(): int { } }" + main:                      api.ErrType,
		"class A { def m() { return 1; } }" + main:                 api.ErrArity,
		"class A { def m(a: int, a: int) { } def k() { } }" + main: api.ErrExists,
	} {
		src := program(t, text)
		if u, e := Program(src); e != want || len(u.Funcs) != 0 || len(u.Hier.Classes) != 0 || u.Main != 0 {
			t.Errorf("Program %s: %v %d", text, u, int(e))
		}
		if f, e := Method(src, "Main", "k"); e != want || !sameFunc(f, api.Func{}) {
			t.Errorf("Method of %s: %v %d", text, f, int(e))
		}
	}
	src := program(t, world+main)
	for _, of := range [][2]string{{"Main", "k"}, {"B", "m"}, {"X", "m"}, {"", ""}, {"A", "f"}} {
		if f, e := Method(src, of[0], of[1]); e != api.ErrUnknown || !sameFunc(f, api.Func{}) {
			t.Errorf("Method %q: %v %d", of, f, int(e))
		}
	}
}

// both checks the error of Program, and that of Method for Main.main.
func both(t *testing.T, what string, src api.Source, ofProgram, ofMethod api.Errno) {
	t.Helper()
	if _, e := typecheck.Program(src); e != api.OK {
		t.Fatalf("%s: %d", what, int(e))
	}
	if u, e := Program(src); e != ofProgram || e != api.OK && (len(u.Funcs) != 0 || len(u.Hier.Classes) != 0) {
		t.Errorf("%s: Program %d, want %d", what, int(e), int(ofProgram))
	}
	if f, e := Method(src, "Main", "main"); e != ofMethod || e != api.OK && !sameFunc(f, api.Func{}) {
		t.Errorf("%s: Method %d, want %d", what, int(e), int(ofMethod))
	}
}

// withMethods returns a program with so many methods beside Main.main, one of which has so many allocation sites.
func withMethods(t *testing.T, count, sites int) api.Source {
	src := program(t, main)
	for i := range count {
		if i%16 == 0 {
			src.Classes = append(src.Classes, api.Class{Name: "C" + strconv.Itoa(i)})
		}
		c := &src.Classes[len(src.Classes)-1]
		c.Methods = append(c.Methods, api.Method{Name: "m" + strconv.Itoa(i)})
		for range min(sites, 200) {
			throw := api.Stmt{Kind: api.SThrow, Exprs: []api.Expr{{Kind: api.ENew, Name: "Main"}}}
			c.Methods[len(c.Methods)-1].Body = append(c.Methods[len(c.Methods)-1].Body, throw)
			sites--
		}
	}
	return src
}

func TestLimits(t *testing.T) { // P12.1
	both(t, "256 functions", withMethods(t, 255, 0), api.OK, api.OK)
	both(t, "257 functions", withMethods(t, 256, 0), api.ErrTooLong, api.OK)
	both(t, "1024 sites", withMethods(t, 10, 1024), api.OK, api.OK)
	both(t, "1025 sites", withMethods(t, 10, 1025), api.ErrTooLong, api.OK)
	sum := func(terms int) api.Expr { // of so many numbers, in a balanced tree
		list := slices.Repeat([]api.Expr{{Kind: api.EInput}}, terms)
		for len(list) > 1 {
			list = append(list[2:], api.Expr{Kind: api.EBin, N: api.OpMul, Kids: list[:2:2]})
		}
		return list[0]
	}
	src := program(t, world+"class Main { static def main() { var x: int = 1; } def k() { } }")
	body := src.Classes[2].Methods[0].Body
	for _, c := range []struct {
		terms, more int
		want        api.Errno
	}{{128, 0, api.OK}, {128, 1, api.ErrTooLong}, {129, 0, api.ErrTooLong}, {127, 2, api.OK}, {127, 3, api.ErrTooLong}, {4096, 0, api.ErrTooLong}} {
		list := slices.Clone(body)
		list[0].Exprs = []api.Expr{sum(c.terms)}
		for i := range c.more {
			list = append(list, api.Stmt{Kind: api.SVar, Name: "y" + strconv.Itoa(i), Type: "int"})
		}
		src.Classes[2].Methods[0].Body = list
		both(t, strconv.Itoa(c.terms)+" terms and "+strconv.Itoa(c.more)+" variables", src, c.want, c.want)
		if _, e := Method(src, "Main", "k"); e != api.OK {
			t.Errorf("another method: %d", int(e))
		}
	}
}

// A tree may have far more nodes than there is memory for, as parts of it may be shared.
func TestLargeTreesNeedNoMemory(t *testing.T) { // P12.1
	e := api.Expr{Kind: api.EInput}
	for range 17 {
		e = api.Expr{Kind: api.EBin, N: api.OpMul, Kids: []api.Expr{e, e}}
	}
	src := program(t, "class Main { static def main() { var x: int; } }")
	src.Classes[0].Methods[0].Body[0].Exprs = []api.Expr{e}
	var before, after runtime.MemStats
	runtime.ReadMemStats(&before)
	both(t, "a sum of 131072 terms", src, api.ErrTooLong, api.ErrTooLong)
	runtime.ReadMemStats(&after)
	if used := after.TotalAlloc - before.TotalAlloc; used > 10<<20 {
		t.Errorf("the program takes %d bytes", used)
	}
}

func TestFunctionsOfManyStatements(t *testing.T) { // P12.1
	var s api.Stmt
	s.Kind, s.Exprs = api.SWhile, []api.Expr{{Kind: api.EVar, Name: "x"}}
	src := program(t, "class Main { static def main() { var x: int; } }")
	m := &src.Classes[0].Methods[0]
	m.Body = append(m.Body, slices.Repeat([]api.Stmt{s}, 199)...)
	f, e := Method(src, "Main", "main")
	if e != api.OK || len(f.Code) != 3*199+1 || len(f.Vars) != 1 {
		t.Errorf("199 loops: %d instructions, %d", len(f.Code), int(e))
	}
}

func TestSlots(t *testing.T) { // P12.2
	m, _, e := parse.Method("def m(a: int) { try { var b: int; } catch (e: A) { var c: int; } }")
	if e != api.OK {
		t.Fatal(e)
	}
	name := func(list []api.Field) string { return variables(api.Func{Vars: list}) }
	if got := name(Slots("A", m)); got != "this:A a:int b:int e:A c:int" {
		t.Error(got)
	}
	m.Static = true
	if got := name(Slots("A", m)); got != "a:int b:int e:A c:int" {
		t.Error(got)
	}
	if got := name(Slots("", api.Method{})); got != "this:" {
		t.Error(got)
	}
	if got := Slots("A", api.Method{Static: true}); len(got) != 0 {
		t.Error(got)
	}
	v := func(kind int, name string, body, other []api.Stmt) []api.Stmt {
		return []api.Stmt{{Kind: kind, Name: name, Type: "T", Body: body, Else: other}}
	}
	for kind := range 12 {
		body, other := v(api.SVar, "b", nil, nil), v(api.STry, "c", v(api.SVar, "d", nil, nil), nil)
		want := map[int]string{api.SVar: "k:T b:T d:T c:T", api.STry: "b:T k:T d:T c:T"}[kind]
		if want == "" {
			want = "b:T d:T c:T"
		}
		if got := name(Slots("A", api.Method{Static: true, Body: v(kind, "k", body, other)})); got != want {
			t.Errorf("kind %d: %s, want %s", kind, got, want)
		}
	}
	deep := v(api.SVar, "a", nil, nil)
	for range 60000 {
		deep = v(api.STry, "b", v(api.SVar, "c", nil, nil), deep)
	}
	if got := Slots("A", api.Method{Body: deep}); len(got) != 120002 || got[1].Name != "c" || got[2].Name != "b" || got[120001].Name != "a" {
		t.Errorf("a deep body has %d slots", len(got))
	}
}

func TestSlotsComeFirst(t *testing.T) { // P12.2
	for seed := range uint(300) {
		src := samples.Program(seed, 3)
		for _, c := range src.Classes {
			for _, m := range c.Methods {
				f, e := Method(src, c.Name, m.Name)
				slots := Slots(c.Name, m)
				if want := modelSlots(c.Name, m); e != api.OK || !slices.Equal(slots, want) || !slices.Equal(f.Vars[:len(slots)], want) {
					t.Fatalf("seed %d: %s %s: %v, want %v", seed, c.Name, m.Name, slots, want)
				}
			}
		}
	}
}

func TestUnitsAreValid(t *testing.T) { // P12.3
	for seed := range uint(2000) {
		u, e := Program(samples.Program(seed, 1+int(seed%5)))
		if e != api.OK {
			t.Fatalf("seed %d: %d", seed, int(e))
		}
		if f, i, e := ir.Check(u); e != api.OK {
			t.Fatalf("seed %d: instruction %d of function %d: %d", seed, i, f, int(e))
		}
		for _, f := range u.Funcs {
			for k := range f.Code {
				if what := (reader{u.Hier, f}).fault(k); what != "" {
					t.Fatalf("seed %d: instruction %d of %s.%s is wrong, because of %s: %s", seed, k, f.Class, f.Name, what, text(f))
				}
			}
		}
	}
}

// yields returns how many temporaries expressions yield by P12.4.
func yields(list []api.Expr) int {
	count := 0
	for _, e := range list {
		if e.Kind != api.EVar && e.Kind != api.EThis {
			count++
		}
		if e.Kind == api.EBin && e.N <= api.OpSub && e.Kids[1].Kind == api.EInt {
			count--
		}
		count += yields(e.Kids)
	}
	return count
}

// yieldsOf returns how many temporaries statements yield.
func yieldsOf(list []api.Stmt) int {
	count := 0
	for _, s := range list {
		count += yields(s.Exprs) + yieldsOf(s.Body) + yieldsOf(s.Else)
		if s.Kind == api.SCall {
			count--
		}
	}
	return count
}

func TestTemporaries(t *testing.T) { // P12.4
	for seed := range uint(400) {
		src := samples.Program(seed, 3)
		for _, c := range src.Classes {
			for _, m := range c.Methods {
				f, _ := Method(src, c.Name, m.Name)
				first := len(Slots(c.Name, m))
				want := yieldsOf(m.Body)
				if m.Result != "" {
					want++
				}
				if len(f.Vars)-first != want {
					t.Fatalf("seed %d: %s has %d temporaries, want %d", seed, text(f), len(f.Vars)-first, want)
				}
				for v := first; v < len(f.Vars); v++ {
					if name := "$" + strconv.Itoa(v-first); f.Vars[v].Name != name || assigned(f, v) != 1 {
						t.Fatalf("seed %d: %s is assigned %d times in %s", seed, f.Vars[v].Name, assigned(f, v), text(f))
					}
				}
			}
		}
	}
}

// assigned returns how many instructions assign a variable.
func assigned(f api.Func, v int) int {
	count := 0
	for _, i := range f.Code {
		if i.Dst == v && !slices.Contains([]int{api.IStore, api.IBranch, api.IJump, api.IReturn, api.IThrow}, i.Op) {
			count++
		}
	}
	return count
}

func TestNoSharedMemory(t *testing.T) { // R5
	for seed := range uint(200) {
		src := samples.Program(seed, 2)
		u, _ := Program(src)
		again, _ := Program(src)
		for k := range u.Funcs {
			f := &u.Funcs[k]
			for v := range f.Vars {
				f.Vars[v] = api.Field{}
			}
			for i := range f.Code {
				for a := range f.Code[i].Args {
					f.Code[i].Args[a] = -7
				}
				f.Code[i].Args = append(f.Code[i].Args, -7)
			}
			f.Vars = append(f.Vars, api.Field{})
			if k+1 < len(u.Funcs) && !sameFunc(u.Funcs[k+1], again.Funcs[k+1]) {
				t.Fatalf("seed %d: two functions share memory", seed)
			}
		}
		if !sameHier(u.Hier, again.Hier) || !parse.Same(src, samples.Program(seed, 2)) {
			t.Fatalf("seed %d: a function shares memory with its hierarchy or the source", seed)
		}
		for i := range u.Hier.Classes {
			clear(u.Hier.Classes[i].Fields)
			clear(u.Hier.Classes[i].Methods)
		}
		if third, _ := Program(src); !slices.EqualFunc(third.Funcs, again.Funcs, sameFunc) || !sameHier(third.Hier, again.Hier) {
			t.Fatalf("seed %d: the hierarchy shares memory with the source", seed)
		}
	}
	params := []api.Field{{Name: "a", Type: "int"}, {Name: "b", Type: "int"}}
	m := api.Method{Static: true, Params: params[:1], Body: []api.Stmt{{Kind: api.SVar, Name: "x"}}}
	list := Slots("A", m)
	list[0].Name = "y"
	other := Slots("A", api.Method{Static: true, Params: params[:1]})
	_ = append(other, api.Field{Name: "z"})
	if params[0].Name != "a" || params[1].Name != "b" {
		t.Error("Slots shares memory with its argument")
	}
}

func TestEndlessTrees(t *testing.T) { // R1
	src := program(t, world+main)
	body := []api.Stmt{{Kind: api.SWhile, Exprs: []api.Expr{{Kind: api.EInput}}}}
	body[0].Body = body
	src.Classes[2].Methods[0].Body = body
	if _, e := Program(src); e != api.ErrTooLong {
		t.Errorf("Program: %d", int(e))
	}
	if _, e := Method(src, "A", "m"); e != api.ErrTooLong {
		t.Errorf("Method: %d", int(e))
	}
}
