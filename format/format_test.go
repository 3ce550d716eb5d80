package format

import (
	"slices"
	"strings"
	"testing"

	"dataflow/api"
	"dataflow/lex"
	"dataflow/parse"
)

func TestTextsOfExpressions(t *testing.T) { // P9.2
	a, b, c := variable("a"), variable("b"), variable("c")
	this := api.Expr{Kind: api.EThis}
	call := func(name string, kids ...api.Expr) api.Expr {
		return api.Expr{Kind: api.ECall, Name: name, Kids: kids}
	}
	field := func(e api.Expr) api.Expr { return api.Expr{Kind: api.EField, Name: "f", Kids: exprs(e)} }
	static := func(kids ...api.Expr) api.Expr {
		return api.Expr{Kind: api.EStatic, Of: "A", Name: "m", Kids: kids}
	}
	add, sub, mul, less, equal := int64(api.OpAdd), int64(api.OpSub), int64(api.OpMul), int64(api.OpLess), int64(api.OpEqual)
	for _, x := range []struct {
		e    api.Expr
		want string
	}{
		{operation(mul, operation(add, a, number(1)), b), "(a + 1) * b"},
		{operation(sub, a, operation(sub, b, number(-1))), "a - (b - -1)"},
		{operation(sub, operation(sub, a, b), c), "a - b - c"},
		{operation(add, operation(sub, a, b), c), "a - b + c"},
		{operation(sub, a, operation(add, b, c)), "a - (b + c)"},
		{operation(mul, operation(mul, a, b), c), "a * b * c"},
		{operation(mul, a, operation(mul, b, c)), "a * (b * c)"},
		{operation(add, operation(mul, a, b), operation(mul, b, c)), "a * b + b * c"},
		{operation(less, operation(add, a, b), operation(sub, b, c)), "a + b < b - c"},
		{operation(less, operation(less, a, b), c), "(a < b) < c"},
		{operation(equal, a, operation(less, b, c)), "a == (b < c)"},
		{operation(mul, operation(equal, a, b), operation(less, b, c)), "(a == b) * (b < c)"},
		{operation(add, operation(less, a, b), c), "(a < b) + c"},
		{number(0), "0"},
		{number(-7), "-7"},
		{number(9223372036854775807), "9223372036854775807"},
		{number(-9223372036854775807), "-9223372036854775807"},
		{operation(add, number(-1), number(-2)), "-1 + -2"},
		{api.Expr{Kind: api.ENull}, "null"},
		{a, "a"},
		{this, "this"},
		{api.Expr{Kind: api.EInput}, "input()"},
		{api.Expr{Kind: api.ENew, Name: "A"}, "new A()"},
		{field(this), "this.f"},
		{field(field(a)), "a.f.f"},
		{field(number(-1)), "-1.f"},
		{field(operation(mul, a, b)), "(a * b).f"},
		{field(static()), "A::m().f"},
		{call("m", a), "a.m()"},
		{call("m", field(a), b), "a.f.m(b)"},
		{call("m", call("n", a, b, c), operation(less, a, b), this), "a.n(b, c).m(a < b, this)"},
		{call("m", operation(equal, a, b), operation(add, a, b)), "(a == b).m(a + b)"},
		{call("m", api.Expr{Kind: api.ENew, Name: "A"}), "new A().m()"},
		{static(), "A::m()"},
		{static(a), "A::m(a)"},
		{static(operation(add, a, b), static(c), number(-1)), "A::m(a + b, A::m(c), -1)"},
		{operation(mul, field(a), call("m", b)), "a.f * b.m()"},
	} {
		if s, f := Expr(x.e); s != x.want || f != api.OK {
			t.Errorf("Expr %v: %q %d, want %q", x.e, s, int(f), x.want)
		}
	}
}

func TestTextsOfStatements(t *testing.T) { // P9.2
	a, b := variable("a"), variable("b")
	sum := operation(api.OpAdd, a, b)
	leave, set := api.Stmt{Kind: api.SReturn}, api.Stmt{Kind: api.SAssign, Name: "x", Exprs: exprs(sum)}
	for _, x := range []struct {
		s    api.Stmt
		want string
	}{
		{api.Stmt{Kind: api.SVar, Name: "x", Type: "int"}, "var x: int;"},
		{api.Stmt{Kind: api.SVar, Name: "x", Type: "A", Exprs: exprs(sum)}, "var x: A = a + b;"},
		{set, "x = a + b;"},
		{api.Stmt{Kind: api.SStore, Name: "f", Exprs: exprs(a, sum)}, "a.f = a + b;"},
		{api.Stmt{Kind: api.SStore, Name: "f", Exprs: exprs(sum, b)}, "(a + b).f = b;"},
		{api.Stmt{Kind: api.SThrow, Exprs: exprs(sum)}, "throw a + b;"},
		{leave, "return;"},
		{api.Stmt{Kind: api.SReturn, Exprs: exprs(sum)}, "return a + b;"},
		{api.Stmt{Kind: api.SCall, Exprs: exprs(api.Expr{Kind: api.ECall, Name: "m", Kids: exprs(sum, sum)})}, "(a + b).m(a + b);"},
		{api.Stmt{Kind: api.SCall, Exprs: exprs(api.Expr{Kind: api.EStatic, Of: "A", Name: "m"})}, "A::m();"},
		{api.Stmt{Kind: api.SIf, Exprs: exprs(sum)}, "if (a + b) {\n}"},
		{api.Stmt{Kind: api.SIf, Exprs: exprs(a), Body: []api.Stmt{leave, set}}, "if (a) {\n\treturn;\n\tx = a + b;\n}"},
		{api.Stmt{Kind: api.SIf, Exprs: exprs(a), Else: []api.Stmt{leave}}, "if (a) {\n} else {\n\treturn;\n}"},
		{api.Stmt{Kind: api.SIf, Exprs: exprs(a), Body: []api.Stmt{leave}, Else: []api.Stmt{{Kind: api.SIf, Exprs: exprs(b), Else: []api.Stmt{set}}}}, "if (a) {\n\treturn;\n} else {\n\tif (b) {\n\t} else {\n\t\tx = a + b;\n\t}\n}"},
		{api.Stmt{Kind: api.SWhile, Exprs: exprs(sum)}, "while (a + b) {\n}"},
		{api.Stmt{Kind: api.SWhile, Exprs: exprs(a), Body: []api.Stmt{set, leave}}, "while (a) {\n\tx = a + b;\n\treturn;\n}"},
		{api.Stmt{Kind: api.STry, Name: "e", Type: "A"}, "try {\n} catch (e: A) {\n}"},
		{api.Stmt{Kind: api.STry, Name: "e", Type: "int", Body: []api.Stmt{leave}, Else: []api.Stmt{set}}, "try {\n\treturn;\n} catch (e: int) {\n\tx = a + b;\n}"},
	} {
		for _, indent := range []int{0, 1, 2, 32} {
			var want strings.Builder
			for line := range strings.Lines(x.want + "\n") {
				want.WriteString(strings.Repeat("\t", indent) + line)
			}
			if s, f := Stmt(x.s, indent); s != want.String() || f != api.OK {
				t.Errorf("Stmt %v indented by %d: %q %d, want %q", x.s, indent, s, int(f), want.String())
			}
		}
	}
}

func TestTextsOfMethodsAndPrograms(t *testing.T) { // P9.2
	p, q := api.Field{Name: "p", Type: "int"}, api.Field{Name: "q", Type: "A"}
	loop := api.Stmt{Kind: api.SWhile, Exprs: exprs(variable("p")), Body: []api.Stmt{{Kind: api.SReturn}}}
	methods := []api.Method{
		{Name: "m"},
		{Name: "m", Static: true},
		{Name: "m", Params: []api.Field{p}},
		{Name: "m", Params: []api.Field{p, q, p}, Result: "int"},
		{Name: "n", Static: true, Params: []api.Field{q, p}, Result: "A", Body: []api.Stmt{loop, {Kind: api.SReturn, Exprs: exprs(variable("q"))}}},
	}
	texts := []string{
		"def m() {\n}\n",
		"static def m() {\n}\n",
		"def m(p: int) {\n}\n",
		"def m(p: int, q: A, p: int): int {\n}\n",
		"static def n(q: A, p: int): A {\n\twhile (p) {\n\t\treturn;\n\t}\n\treturn q;\n}\n",
	}
	within := ""
	for i, m := range methods {
		if s, f := Method(m); s != texts[i] || f != api.OK {
			t.Errorf("Method %v: %q %d, want %q", m, s, int(f), texts[i])
		}
		for line := range strings.Lines(texts[i]) {
			within += "\t" + line
		}
	}
	src := api.Source{Classes: []api.Class{{Name: "A"}, {Name: "B", Super: "A", Fields: []api.Field{p, q}, Methods: methods}, {Name: "C", Fields: []api.Field{q}}, {Name: "D", Super: "D", Methods: methods[:1]}}}
	want := "class A {\n}\nclass B extends A {\n\tvar p: int;\n\tvar q: A;\n" + within + "}\nclass C {\n\tvar q: A;\n}\nclass D extends D {\n\tdef m() {\n\t}\n}\n"
	if s, f := Program(src); s != want || f != api.OK {
		t.Errorf("Program: %q %d, want %q", s, int(f), want)
	}
	if s, f := Program(api.Source{}); s != "" || f != api.OK {
		t.Errorf("Program without classes: %q %d", s, int(f))
	}
}

// opensGroup reports whether tokens[i] is a parenthesis around an expression, rather than one of a call, a condition or a list of parameters.
func opensGroup(tokens []api.Token, i int) bool {
	if tokens[i].Text != "(" {
		return false
	}
	return i == 0 || tokens[i-1].Kind != api.TokWord && !slices.Contains([]string{"input", "if", "while", "catch"}, tokens[i-1].Text)
}

// partner returns the index of the parenthesis that closes tokens[i].
func partner(tokens []api.Token, i int) int {
	for depth := 0; ; i++ {
		switch tokens[i].Text {
		case "(":
			depth++
		case ")":
			depth--
		}
		if depth == 0 {
			return i
		}
	}
}

func sameExpr(a, b api.Expr) bool {
	return parse.Same(inMethod(api.Stmt{Exprs: exprs(a)}), inMethod(api.Stmt{Exprs: exprs(b)}))
}

// checkParentheses checks that the text of an expression is that of the same tree, but is not any more without one of its pairs of parentheses.
func checkParentheses(t *testing.T, e api.Expr) {
	t.Helper()
	s, f := Expr(e)
	if got, _, g := parse.Expr(s); f != api.OK || g != api.OK || !sameExpr(got, e) {
		t.Errorf("Expr %v: %q %d", e, s, int(f))
		return
	}
	tokens, _, _ := lex.Tokens(s)
	for i := range tokens {
		if !opensGroup(tokens, i) {
			continue
		}
		end := partner(tokens, i)
		less := lex.Join(slices.Concat(tokens[:i], tokens[i+1:end], tokens[end+1:])...)
		if got, _, g := parse.Expr(less); g == api.OK && sameExpr(got, e) {
			t.Errorf("Expr %v: %q, but %q is enough", e, s, less)
		}
	}
}

func TestParentheses(t *testing.T) { // P9.2
	a := variable("a")
	kinds := func(e api.Expr) []api.Expr {
		var list []api.Expr
		for op := range int64(5) {
			list = append(list, operation(1+op, e, a), operation(1+op, a, e), operation(1+op, e, number(-1)))
		}
		return append(list, api.Expr{Kind: api.EField, Name: "f", Kids: exprs(e)}, api.Expr{Kind: api.ECall, Name: "m", Kids: exprs(e)}, api.Expr{Kind: api.ECall, Name: "m", Kids: exprs(a, e)}, api.Expr{Kind: api.EStatic, Of: "A", Name: "m", Kids: exprs(e, e)})
	}
	inner := exprs(a, number(-1), number(2), api.Expr{Kind: api.ENull}, api.Expr{Kind: api.EThis}, api.Expr{Kind: api.EInput}, api.Expr{Kind: api.ENew, Name: "A"})
	for range 3 {
		var outer []api.Expr
		for _, e := range inner {
			outer = append(outer, kinds(e)...)
		}
		for _, e := range outer {
			checkParentheses(t, e)
		}
		inner = slices.Concat(outer[:20], outer[len(outer)-20:])
	}
	for seed := range uint(500) {
		m := &maker{seed}
		checkParentheses(t, m.expr(2+m.upTo(6)))
	}
}

// layout writes the tokens of a program as the chapter says: each line ends with a semicolon or a brace, and its tabs are as many as the blocks around it.
func layout(tokens []api.Token) string {
	var s strings.Builder
	depth, fresh := 0, true
	for i, token := range tokens[:len(tokens)-1] {
		next := tokens[i+1].Text
		if token.Text == "}" {
			depth--
		}
		if fresh {
			s.WriteString(strings.Repeat("\t", depth))
		}
		s.WriteString(token.Text)
		if token.Text == "{" {
			depth++
		}
		fresh = token.Text == "{" || token.Text == ";" || token.Text == "}" && next != "else" && next != "catch"
		if fresh {
			s.WriteString("\n")
		} else if spaced(tokens[:i+1], next) {
			s.WriteString(" ")
		}
	}
	return s.String()
}

// spaced reports whether a space stands between the last one of these tokens and the next one, within a line.
func spaced(tokens []api.Token, next string) bool {
	last := tokens[len(tokens)-1]
	switch {
	case last.Text == "-" && len(tokens) > 1:
		return !isSign(tokens[len(tokens)-2])
	case slices.Contains([]string{"(", ".", "::", "-"}, last.Text), slices.Contains([]string{")", ".", "::", ",", ";", ":"}, next):
		return false
	case next == "(" && (last.Kind == api.TokWord || last.Text == "input"):
		return false
	}
	return true
}

// isSign reports whether a - after a token negates a number.
func isSign(before api.Token) bool {
	operand := before.Kind == api.TokWord || before.Kind == api.TokNumber || before.Text == ")" || before.Text == "null" || before.Text == "this"
	return !operand
}

func TestLayout(t *testing.T) { // P9.2
	lines := 0
	for seed := range uint(300) {
		src := (&maker{seed}).source()
		s, f := Program(src)
		tokens, _, e := lex.Tokens(s)
		if f != api.OK || e != api.OK || s != layout(tokens) {
			t.Fatalf("Program %v: %d\n%s\nwant\n%s", src, int(f), s, layout(tokens))
		}
		lines += strings.Count(s, "\n")
		for _, c := range src.Classes {
			for _, m := range c.Methods {
				s, f := Method(m)
				whole, _ := Program(inClass(api.Class{Name: "A", Methods: []api.Method{m}}))
				if f != api.OK || whole != "class A {\n\t"+strings.TrimSuffix(strings.ReplaceAll(s, "\n", "\n\t"), "\t")+"}\n" {
					t.Errorf("Method %v: %q %d, within a class %q", m, s, int(f), whole)
				}
			}
		}
	}
	if lines < 5000 {
		t.Errorf("only %d lines", lines)
	}
}

func TestTextsAreParsed(t *testing.T) { // P9.3
	for seed := range uint(400) {
		src := (&maker{seed}).source()
		s, f := Program(src)
		if got, at, e := parse.Program(s); f != api.OK || e != api.OK || !parse.Same(got, src) {
			t.Errorf("Program %v: %q %d; parsed: %v %d %d", src, s, int(f), got, at, int(e))
		}
		if e := Check(src); e != api.OK {
			t.Errorf("Check %v: %d", src, int(e))
		}
	}
}

// disguised returns another text with the tree of a text: with comments, other separators and more parentheses.
func disguised(m *maker, s string) string {
	tokens, _, _ := lex.Tokens(s)
	var words []string
	closing := "" // what a semicolon must follow
	for i, token := range tokens {
		word := token.Text
		switch {
		case word == "this" || word == "null":
			word = []string{word, "(" + word + ")", "((" + word + "))"}[m.upTo(3)]
		case word == "=" || word == "throw" || word == "return" && tokens[i+1].Text != ";":
			if m.upTo(2) == 0 {
				word, closing = word+" (", ")"
			}
		case word == ";":
			word, closing = closing+";", ""
		}
		words = append(words, word, []string{" ", "  ", "\n", "\t", "\r\n", " // }\n", "//(\n"}[m.upTo(7)])
	}
	return strings.Join(words, "")
}

func TestParsedTexts(t *testing.T) { // P9.4
	texts := []string{
		"", "// nothing", "class A{}", "class A { } // x",
		"class A{var f:int;static def m(a:A):int{if((1)){}else{}if(1){}else{return((2));}}}",
		"class A{def m(){((a)).f=((b));(a.b(c)).d(((e)));A::m((1)+(2));(A::m()).m();-1.m();(- 1).f=- 1;}}",
		"class A{def m(){x=(a+(b+c))*((d))-((e)-f)-g;y=((a<b)==(c<d));z=(a*b)+(c*d)<(e-f);}}",
		"class A{def m(){try{throw(this);}catch(e:int){while(input()){new A().f=null.g;}}}}",
	}
	for seed := range uint(300) {
		m := &maker{seed}
		s, _ := Program(m.source())
		texts = append(texts, disguised(m, s))
	}
	for _, s := range texts {
		src, _, e := parse.Program(s)
		if e != api.OK {
			t.Fatalf("parse.Program %q: %d", s, int(e))
		}
		text, f := Program(src)
		if got, _, e := parse.Program(text); f != api.OK || e != api.OK || !parse.Same(got, src) {
			t.Errorf("Program of the tree of %q: %q %d", s, text, int(f))
		}
	}
	// The text has more bytes than the one that was parsed, and is too long.
	long := "class A{def m(){A::m(a" + strings.Repeat(",a", 30000) + ");}}"
	src, _, e := parse.Program(long)
	if s, f := Program(src); e != api.OK || s != "" || f != api.ErrTooLong {
		t.Errorf("Program of a tree whose text is too long: %d bytes, %d", len(s), int(f))
	}
}

func TestArgumentsAreUnchanged(t *testing.T) { // R5
	for seed := range uint(50) {
		src, again := (&maker{seed}).source(), (&maker{seed}).source()
		src.Classes = slices.Grow(src.Classes, 3)
		spare := src.Classes[:cap(src.Classes)]
		for i := range src.Classes {
			src.Classes[i].Methods = slices.Grow(src.Classes[i].Methods, 2)
		}
		s, _ := Program(src)
		if Check(src) != api.OK || !parse.Same(src, again) {
			t.Errorf("Program changes %v", again)
		}
		for _, c := range spare[len(src.Classes):] {
			if c.Name != "" || c.Methods != nil {
				t.Errorf("Program changes spare capacity")
			}
		}
		if other, _ := Program(again); other != s {
			t.Errorf("Program gives %q and %q", s, other)
		}
	}
}
