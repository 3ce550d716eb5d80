package format

import (
	"math"
	"slices"
	"strings"
	"testing"

	"dataflow/api"
	"dataflow/lex"
)

func variable(name string) api.Expr { return api.Expr{Kind: api.EVar, Name: name} }

func number(n int64) api.Expr { return api.Expr{Kind: api.EInt, N: n} }

func operation(op int64, a, b api.Expr) api.Expr {
	return api.Expr{Kind: api.EBin, N: op, Kids: []api.Expr{a, b}}
}

func exprs(list ...api.Expr) []api.Expr { return list }

// inClass and inMethod return a source around a part.
func inClass(c api.Class) api.Source { return api.Source{Classes: []api.Class{c}} }

func inMethod(stmts ...api.Stmt) api.Source {
	return inClass(api.Class{Name: "A", Methods: []api.Method{{Name: "m", Body: stmts}}})
}

// orOf returns the first error.
func orOf(list ...api.Errno) api.Errno {
	for _, e := range list {
		if e != api.OK {
			return e
		}
	}
	return api.OK
}

// when returns an error if it applies.
func when(applies bool, e api.Errno) api.Errno {
	if applies {
		return e
	}
	return api.OK
}

// modelExpr returns the fault of an expression by the words of the chapter.
func modelExpr(e api.Expr) api.Errno {
	used := map[int]string{api.EInt: "N", api.ENull: "", api.EVar: "Name", api.EThis: "", api.EInput: "", api.EBin: "N 2", api.ENew: "Name", api.EField: "Name 1", api.ECall: "Name some", api.EStatic: "Of Name any"}
	fields, known := used[e.Kind]
	kids := map[string]bool{"any": true, "some": len(e.Kids) > 0, "1": len(e.Kids) == 1, "2": len(e.Kids) == 2}
	words := strings.Fields(fields)
	good := len(e.Kids) == 0
	if len(words) > 0 {
		if rule, ok := kids[words[len(words)-1]]; ok {
			good = rule
		}
	}
	isOp := 1 <= e.N && e.N <= 5
	fault := orOf(
		when(!known || e.Kind == api.EBin && !isOp, api.ErrKind),
		when(!good, api.ErrInvalid),
		when(!slices.Contains(words, "N") && e.N != 0, api.ErrInvalid),
		when(!slices.Contains(words, "Of") && e.Of != "", api.ErrInvalid),
		when(!slices.Contains(words, "Name") && e.Name != "", api.ErrInvalid),
		when(e.Kind == api.EInt && e.N == math.MinInt64, api.ErrRange),
		when(slices.Contains(words, "Of") && !lex.Ident(e.Of), api.ErrName),
		when(slices.Contains(words, "Name") && !lex.Ident(e.Name), api.ErrName),
	)
	for _, kid := range e.Kids {
		fault = orOf(fault, modelExpr(kid))
	}
	return fault
}

// modelStmt returns the fault of a statement by the words of the chapter.
func modelStmt(s api.Stmt) api.Errno {
	used := map[int]string{api.SVar: "Name Type", api.SAssign: "Name", api.SStore: "Name", api.SIf: "Body Else", api.SWhile: "Body", api.STry: "Name Type Body Else", api.SThrow: "", api.SReturn: "", api.SCall: ""}
	counts := map[int][]int{api.SVar: {0, 1}, api.SAssign: {1}, api.SStore: {2}, api.SIf: {1}, api.SWhile: {1}, api.STry: {0}, api.SThrow: {1}, api.SReturn: {0, 1}, api.SCall: {1}}
	fields, known := used[s.Kind]
	words := strings.Fields(fields)
	fault := orOf(
		when(!known, api.ErrKind),
		when(!slices.Contains(counts[s.Kind], len(s.Exprs)), api.ErrInvalid),
		when(!slices.Contains(words, "Name") && s.Name != "", api.ErrInvalid),
		when(!slices.Contains(words, "Type") && s.Type != "", api.ErrInvalid),
		when(!slices.Contains(words, "Body") && len(s.Body) > 0, api.ErrInvalid),
		when(!slices.Contains(words, "Else") && len(s.Else) > 0, api.ErrInvalid),
		when(slices.Contains(words, "Name") && !lex.Ident(s.Name), api.ErrName),
		when(slices.Contains(words, "Type") && s.Type != "int" && !lex.Ident(s.Type), api.ErrType),
	)
	for _, e := range s.Exprs {
		fault = orOf(fault, modelExpr(e))
	}
	if fault != api.OK {
		return fault
	}
	if s.Kind == api.SCall && s.Exprs[0].Kind != api.ECall && s.Exprs[0].Kind != api.EStatic {
		return api.ErrKind
	}
	for _, part := range slices.Concat(s.Body, s.Else) {
		fault = orOf(fault, modelStmt(part))
	}
	return fault
}

// modelMethod returns the fault of a method within the limits by the words of the chapter.
func modelMethod(m api.Method) api.Errno {
	fault := when(!lex.Ident(m.Name), api.ErrName)
	for _, p := range m.Params {
		fault = orOf(fault, when(!lex.Ident(p.Name), api.ErrName), when(p.Type != "int" && !lex.Ident(p.Type), api.ErrType))
	}
	fault = orOf(fault, when(m.Result != "" && m.Result != "int" && !lex.Ident(m.Result), api.ErrType))
	for _, s := range m.Body {
		fault = orOf(fault, modelStmt(s))
	}
	return fault
}

// modelClass returns the fault of a class within the limits by the words of the chapter.
func modelClass(c api.Class) api.Errno {
	fault := orOf(when(!lex.Ident(c.Name), api.ErrName), when(c.Super != "" && !lex.Ident(c.Super), api.ErrName))
	for _, f := range c.Fields {
		fault = orOf(fault, when(!lex.Ident(f.Name), api.ErrName), when(f.Type != "int" && !lex.Ident(f.Type), api.ErrType))
	}
	for _, m := range c.Methods {
		fault = orOf(fault, modelMethod(m))
	}
	return fault
}

// checkExpr compares all functions for an expression with its fault.
func checkExpr(t *testing.T, e api.Expr, want api.Errno) {
	t.Helper()
	if s, f := Expr(e); f != want || (s == "") != (want != api.OK) {
		t.Errorf("Expr %v: %q %d, want %d", e, s, int(f), int(want))
	}
	stmt := api.Stmt{Kind: api.SThrow, Exprs: exprs(e)}
	if s, f := Stmt(stmt, 3); f != want || (s == "") != (want != api.OK) {
		t.Errorf("Stmt %v: %q %d, want %d", stmt, s, int(f), int(want))
	}
}

// checkStmt compares all functions for a statement with its fault.
func checkStmt(t *testing.T, stmt api.Stmt, want api.Errno) {
	t.Helper()
	if s, f := Stmt(stmt, 0); f != want || (s == "") != (want != api.OK) {
		t.Errorf("Stmt %v: %q %d, want %d", stmt, s, int(f), int(want))
	}
	src := inMethod(stmt)
	if s, f := Method(src.Classes[0].Methods[0]); f != want || (s == "") != (want != api.OK) {
		t.Errorf("Method with %v: %q %d, want %d", stmt, s, int(f), int(want))
	}
	checkSource(t, src, want)
}

// checkSource compares Check and Program with an error.
func checkSource(t *testing.T, src api.Source, want api.Errno) {
	t.Helper()
	if s, f := Program(src); f != want || want != api.OK && s != "" {
		t.Errorf("Program %v: %q %d, want %d", src, s, int(f), int(want))
	}
	if f := Check(src); f != want {
		t.Errorf("Check %v: %d, want %d", src, int(f), int(want))
	}
}

// badExprs are expressions with different faults.
func badExprs() []api.Expr {
	return exprs(api.Expr{}, variable("int"), number(math.MinInt64), api.Expr{Kind: api.EThis, Name: "a"})
}

func TestFaultsOfExpressions(t *testing.T) { // P9.1, P9.2
	a, bad := variable("a"), badExprs()
	lists := [][]api.Expr{nil, {}, exprs(a), exprs(a, a), exprs(a, a, a), exprs(bad[0]), exprs(a, bad[1]), exprs(bad[2], bad[1]), exprs(bad[3], a), exprs(a, bad[3], bad[0])}
	seen := map[api.Errno]int{}
	for kind := -1; kind <= 11; kind++ {
		for _, n := range []int64{0, 1, 2, 3, 4, 5, 6, -1, math.MinInt64, math.MaxInt64} {
			for _, of := range []string{"", "A", "new", "1"} {
				for _, name := range []string{"", "b", "int", "é"} {
					for _, kids := range lists {
						e := api.Expr{Kind: kind, N: n, Of: of, Name: name, Kids: kids}
						want := modelExpr(e)
						seen[want]++
						checkExpr(t, e, want)
					}
				}
			}
		}
	}
	for _, e := range []api.Errno{api.OK, api.ErrKind, api.ErrInvalid, api.ErrRange, api.ErrName} {
		if seen[e] < 5 {
			t.Errorf("error %d occurs %d times", int(e), seen[e])
		}
	}
}

func TestFaultsOfStatements(t *testing.T) { // P9.1, P9.2
	a, bad := variable("a"), badExprs()
	call := api.Expr{Kind: api.ECall, Name: "m", Kids: exprs(a)}
	static := api.Expr{Kind: api.EStatic, Of: "A", Name: "m"}
	badCall := api.Expr{Kind: api.ECall, Name: "m", Kids: exprs(a, bad[2])}
	lists := [][]api.Expr{nil, {}, exprs(a), exprs(a, call), exprs(call), exprs(static), exprs(a, a, a), exprs(bad[0]), exprs(bad[1]), exprs(bad[2]), exprs(a, bad[1]), exprs(bad[2], bad[1]), exprs(badCall)}
	ok := api.Stmt{Kind: api.SReturn}
	blocks := [][]api.Stmt{nil, {}, {ok}, {ok, {Kind: api.SAssign, Name: "1", Exprs: exprs(a)}}, {{Kind: api.SVar, Name: "a"}, {}}}
	seen := map[api.Errno]int{}
	for kind := -1; kind <= 10; kind++ {
		for _, name := range []string{"", "b", "int"} {
			for _, typ := range []string{"", "int", "A", "this"} {
				for _, list := range lists {
					for k := range len(blocks) * len(blocks) {
						s := api.Stmt{Kind: kind, Name: name, Type: typ, Exprs: list, Body: blocks[k/len(blocks)], Else: blocks[k%len(blocks)]}
						want := modelStmt(s)
						seen[want]++
						checkStmt(t, s, want)
					}
				}
			}
		}
	}
	for _, e := range []api.Errno{api.OK, api.ErrKind, api.ErrInvalid, api.ErrRange, api.ErrName, api.ErrType} {
		if seen[e] < 5 {
			t.Errorf("error %d occurs %d times", int(e), seen[e])
		}
	}
}

// badMethods are methods with one fault each, and one without.
func badMethods() []api.Method {
	p := api.Field{Name: "p", Type: "A"}
	return []api.Method{
		{Name: "m", Params: []api.Field{p, p}, Result: "int", Body: []api.Stmt{{Kind: api.SReturn}}},
		{Name: "catch"},
		{Name: "m", Params: []api.Field{p, {Name: "", Type: "int"}}},
		{Name: "m", Params: []api.Field{{Name: "p", Type: ""}, p}},
		{Name: "m", Params: []api.Field{{Name: "p", Type: "a b"}, {Name: "var", Type: "int"}}},
		{Name: "m", Result: "if"},
		{Name: "m", Body: []api.Stmt{{Kind: api.SReturn}, {Kind: 10}}},
		{Name: "m", Body: []api.Stmt{{Kind: api.SIf}, {Kind: 10}}},
		{Name: "m", Params: []api.Field{p, {Name: "p", Type: "A "}}, Result: "1", Body: []api.Stmt{{}}},
		{Name: "m", Result: "B;", Body: []api.Stmt{{}}},
		{Name: "1", Params: []api.Field{{Name: "p"}}, Result: "1", Body: []api.Stmt{{}}},
	}
}

func TestFaultsOfMethodsAndClasses(t *testing.T) { // P9.1, P9.2
	checkSource(t, inClass(api.Class{Name: "new"}), api.ErrName)
	methods := badMethods()
	for _, m := range methods {
		if s, f := Method(m); f != modelMethod(m) || (s == "") != (f != api.OK) {
			t.Errorf("Method %v: %q %d, want %d", m, s, int(f), int(modelMethod(m)))
		}
	}
	f := api.Field{Name: "f", Type: "int"}
	for _, name := range []string{"B", "", "int", strings.Repeat("n", 32), strings.Repeat("n", 33)} {
		for _, super := range []string{"", "A", "A.B", "null", strings.Repeat("n", 33)} {
			for _, fields := range [][]api.Field{nil, {f, f}, {f, {Name: "g"}}, {{Name: "class", Type: "int"}}, {{Name: "g", Type: "0"}, {Name: "0", Type: "int"}}} {
				for k := range len(methods) * len(methods) {
					c := api.Class{Name: name, Super: super, Fields: fields, Methods: []api.Method{methods[k/len(methods)], methods[k%len(methods)]}}
					checkSource(t, inClass(c), modelClass(c))
				}
			}
		}
	}
	good, first, second := api.Class{Name: "A"}, api.Class{Name: "B", Fields: []api.Field{{Name: "f"}}}, api.Class{Name: "1"}
	checkSource(t, api.Source{Classes: []api.Class{good, first, second}}, api.ErrType)
	checkSource(t, api.Source{Classes: []api.Class{good, second, first}}, api.ErrName)
	checkSource(t, api.Source{Classes: []api.Class{good, good}}, api.OK)
	checkSource(t, api.Source{}, api.OK)
}

// deepExpr returns an expression of a depth.
func deepExpr(depth int) api.Expr {
	e := variable("a")
	for i := range depth - 1 {
		e = []api.Expr{
			{Kind: api.EField, Name: "f", Kids: exprs(e)},
			operation(api.OpSub, variable("a"), e),
			{Kind: api.ECall, Name: "f", Kids: exprs(variable("a"), e)},
			{Kind: api.EStatic, Of: "A", Name: "f", Kids: exprs(e, number(1))},
		}[i%4]
	}
	return e
}

// deepStmt returns a statement of a depth, without expressions of that depth.
func deepStmt(depth int) api.Stmt {
	s := api.Stmt{Kind: api.SReturn}
	for i := range depth - 1 {
		inner := []api.Stmt{{Kind: api.SReturn}, s}
		s = []api.Stmt{
			{Kind: api.SIf, Exprs: exprs(variable("a")), Body: inner},
			{Kind: api.STry, Name: "e", Type: "A", Else: inner},
			{Kind: api.SWhile, Exprs: exprs(variable("a")), Body: inner},
			{Kind: api.SIf, Exprs: exprs(variable("a")), Else: inner},
		}[i%4]
	}
	return s
}

// stmtsOf returns so many statements.
func stmtsOf(count int) []api.Stmt {
	return slices.Repeat([]api.Stmt{{Kind: api.SReturn}}, count)
}

func TestLimitsOfStatements(t *testing.T) { // P9.1, P9.2
	a := variable("a")
	many := func(count int) api.Stmt {
		return api.Stmt{Kind: api.SIf, Exprs: exprs(a), Body: stmtsOf(count / 2), Else: stmtsOf(count - 1 - count/2)}
	}
	deepFault := api.Stmt{Kind: api.SWhile, Exprs: exprs(deepExpr(32)), Name: "x"}
	for _, c := range []struct {
		s    api.Stmt
		want api.Errno
	}{
		{deepStmt(32), api.OK},
		{deepStmt(33), api.ErrDeep},
		{api.Stmt{Kind: api.SThrow, Exprs: exprs(deepExpr(31))}, api.OK},
		{api.Stmt{Kind: api.SThrow, Exprs: exprs(deepExpr(32))}, api.ErrDeep},
		{api.Stmt{Kind: api.SStore, Name: "f", Exprs: exprs(a, deepExpr(31))}, api.OK},
		{api.Stmt{Kind: api.SStore, Name: "f", Exprs: exprs(a, deepExpr(32))}, api.ErrDeep},
		{many(200), api.OK},
		{many(201), api.ErrTooLong},
		{api.Stmt{Kind: api.SIf, Exprs: exprs(deepExpr(32)), Body: stmtsOf(200)}, api.ErrTooLong},
		{api.Stmt{Kind: 0, Exprs: exprs(deepExpr(32))}, api.ErrDeep},
		{api.Stmt{Kind: 0, Body: stmtsOf(200)}, api.ErrTooLong},
		{api.Stmt{Kind: 0, Body: stmtsOf(199)}, api.ErrKind},
		{deepFault, api.ErrDeep},
	} {
		checkStmt(t, c.s, c.want)
	}
	for depth, want := range map[int]api.Errno{32: api.OK, 33: api.ErrDeep} {
		if _, f := Expr(deepExpr(depth)); f != want {
			t.Errorf("Expr of depth %d: %d", depth, int(f))
		}
	}
	e := deepExpr(33)
	e.Name = "1"
	if s, f := Expr(e); s != "" || f != api.ErrDeep {
		t.Errorf("Expr that is too deep and has a fault: %q %d", s, int(f))
	}
	for indent, want := range map[int]api.Errno{-1: api.ErrRange, 0: api.OK, 32: api.OK, 33: api.ErrRange, math.MinInt: api.ErrRange, math.MaxInt: api.ErrRange} {
		if s, f := Stmt(api.Stmt{Kind: api.SReturn}, indent); f != want || (s == "") != (want != api.OK) {
			t.Errorf("Stmt indented by %d: %q %d", indent, s, int(f))
		}
	}
	if _, f := Stmt(many(201), 33); f != api.ErrRange {
		t.Errorf("Stmt of too many and indented by 33: %d", int(f))
	}
}

func TestLimitsOfSources(t *testing.T) { // P9.1, P9.2
	fields := func(count int) []api.Field { return slices.Repeat([]api.Field{{Name: "f", Type: "A"}}, count) }
	methods := func(count int) []api.Method { return slices.Repeat([]api.Method{{Name: "m"}}, count) }
	classes := func(count int) api.Source {
		return api.Source{Classes: slices.Repeat([]api.Class{{Name: "A"}}, count)}
	}
	deep := api.Method{Name: "m", Body: []api.Stmt{deepStmt(33)}}
	long := api.Method{Name: "m", Body: stmtsOf(201)}
	wide := api.Method{Name: "m", Params: fields(7)}
	for _, c := range []struct {
		src  api.Source
		want api.Errno
	}{
		{classes(64), api.OK},
		{classes(65), api.ErrTooLong},
		{inClass(api.Class{Name: "A", Fields: fields(16), Methods: methods(16)}), api.OK},
		{inClass(api.Class{Name: "A", Fields: fields(17)}), api.ErrTooLong},
		{inClass(api.Class{Name: "A", Methods: methods(17)}), api.ErrTooLong},
		{inClass(api.Class{Name: "A", Methods: []api.Method{{Name: "m", Params: fields(6)}}}), api.OK},
		{inMethod(stmtsOf(200)...), api.OK},
		{inMethod(append(stmtsOf(199), api.Stmt{Kind: api.SWhile, Exprs: exprs(number(1)), Body: stmtsOf(1)})...), api.ErrTooLong},
		{inMethod(api.Stmt{Kind: api.SReturn}, deepStmt(33), api.Stmt{}), api.ErrDeep},
		// The limits of the whole come before all faults.
		{api.Source{Classes: []api.Class{{Name: "1", Methods: badMethods()}, {Name: "A", Methods: []api.Method{deep}}}}, api.ErrDeep},
		{api.Source{Classes: []api.Class{{Name: "A", Methods: []api.Method{{}, deep}}, {Name: "A", Fields: fields(17)}}}, api.ErrDeep},
		{api.Source{Classes: []api.Class{{Name: "A", Fields: fields(17), Methods: []api.Method{deep}}}}, api.ErrTooLong},
		{api.Source{Classes: append(classes(64).Classes, api.Class{Methods: []api.Method{deep}})}, api.ErrTooLong},
		{inClass(api.Class{Methods: []api.Method{deep, wide}}), api.ErrDeep},
		{inClass(api.Class{Methods: []api.Method{wide, deep}}), api.ErrTooLong},
		{inClass(api.Class{Methods: []api.Method{long, deep}}), api.ErrTooLong},
	} {
		checkSource(t, c.src, c.want)
	}
	for _, c := range []struct {
		m    api.Method
		want api.Errno
	}{
		{deep, api.ErrDeep}, {long, api.ErrTooLong}, {wide, api.ErrTooLong},
		{api.Method{Name: "1", Body: deep.Body}, api.ErrDeep},
		{api.Method{Name: "1", Body: long.Body}, api.ErrTooLong},
		{api.Method{Name: "1", Params: fields(7), Body: deep.Body}, api.ErrTooLong},
		{api.Method{Name: "m", Params: fields(6), Body: stmtsOf(200)}, api.OK},
	} {
		if s, f := Method(c.m); f != c.want || (s == "") != (f != api.OK) {
			t.Errorf("Method %v: %q %d, want %d", c.m, s, int(f), int(c.want))
		}
	}
}

// wideExpr returns an expression whose text has so many bytes, which are at least 20.
func wideExpr(size int) api.Expr {
	e := api.Expr{Kind: api.EStatic, Of: "A", Name: "m", Kids: exprs(variable("a"))}
	rest := size - len("A::m(a)")
	for ; rest >= 40; rest -= len(", a") {
		e.Kids = append(e.Kids, variable("a"))
	}
	half := rest / 2
	e.Of, e.Name = strings.Repeat("A", 1+half), strings.Repeat("m", 1+rest-half)
	return e
}

func TestLongTexts(t *testing.T) { // P9.1, P9.2
	bad := func(e api.Expr) api.Expr {
		e.Kids = append(exprs(e.Kids[1:]...), variable("1"))
		return e
	}
	for size, want := range map[int]api.Errno{50: api.OK, 65535: api.OK, 65536: api.OK, 65537: api.ErrTooLong, 65538: api.ErrTooLong, 300000: api.ErrTooLong} {
		length := func(s string, f api.Errno) {
			t.Helper()
			if f != want || f == api.OK && len(s) != size || f != api.OK && s != "" {
				t.Errorf("size %d: %d bytes, %d", size, len(s), int(f))
			}
		}
		length(Expr(wideExpr(size)))
		length(Stmt(api.Stmt{Kind: api.SCall, Exprs: exprs(wideExpr(size - 2))}, 0))
		length(Stmt(api.Stmt{Kind: api.SCall, Exprs: exprs(wideExpr(size - 9))}, 7))
		m := api.Method{Name: "m", Body: []api.Stmt{{Kind: api.SCall, Exprs: exprs(wideExpr(size - len("def m() {\n\t;\n}\n")))}}}
		length(Method(m))
		m.Body[0].Exprs[0] = wideExpr(size - len("class A {\n\tdef m() {\n\t\t;\n\t}\n}\n"))
		src := inClass(api.Class{Name: "A", Methods: []api.Method{m}})
		length(Program(src))
		if f := Check(src); f != want {
			t.Errorf("Check with size %d: %d", size, int(f))
		}
		if s, f := Expr(bad(wideExpr(size))); s != "" || f != api.ErrName {
			t.Errorf("size %d and a fault: %d bytes, %d", size, len(s), int(f))
		}
	}
}

func TestDeepTrees(t *testing.T) { // R1
	e, s := variable("a"), api.Stmt{Kind: api.SReturn}
	for range 65536 {
		e = api.Expr{Kind: api.EField, Name: "f", Kids: exprs(e)}
		s = api.Stmt{Kind: api.SWhile, Exprs: exprs(variable("a")), Body: []api.Stmt{s}}
	}
	loop := []api.Expr{{Kind: api.EField, Name: "f"}}
	loop[0].Kids = loop
	ring := []api.Stmt{{Kind: api.SIf, Exprs: exprs(number(1))}}
	ring[0].Body, ring[0].Else = ring, ring
	for _, e := range exprs(e, loop[0]) { // A message with one of them would have no end.
		if s, f := Expr(e); s != "" || f != api.ErrDeep {
			t.Errorf("Expr: %d", int(f))
		}
	}
	for _, s := range []api.Stmt{s, ring[0]} {
		if _, f := Stmt(s, 0); f != api.ErrTooLong {
			t.Errorf("Stmt: %d", int(f))
		}
		if f := Check(inMethod(s)); f != api.ErrTooLong {
			t.Errorf("Check: %d", int(f))
		}
	}
}
