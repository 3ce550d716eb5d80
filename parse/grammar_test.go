package parse

import (
	"slices"
	"strings"
	"testing"

	"dataflow/api"
	"dataflow/lex"
)

// rules is the grammar of the chapter, with one change: the number after a - is a POSITIVE, a number that is not 0.
const rules = `
program = { class }
class   = "class" NAME [ "extends" NAME ] "{" { field } { method } "}"
field   = "var" NAME ":" type ";"
method  = [ "static" ] "def" NAME "(" [ NAME ":" type { "," NAME ":" type } ] ")" [ ":" type ] block
type    = "int" | NAME
block   = "{" { stmt } "}"
stmt    = "var" NAME ":" type [ "=" expr ] ";" | NAME "=" expr ";" | post "." NAME "=" expr ";" | "if" "(" expr ")" block [ "else" block ] | "while" "(" expr ")" block | "try" block "catch" "(" NAME ":" type ")" block | "throw" expr ";" | "return" [ expr ] ";" | call ";"
call    = post "." NAME "(" [ expr { "," expr } ] ")" | NAME "::" NAME "(" [ expr { "," expr } ] ")"
expr    = sum [ ( "<" | "==" ) sum ]
sum     = prod { ( "+" | "-" ) prod }
prod    = post { "*" post }
post    = atom { "." NAME [ "(" [ expr { "," expr } ] ")" ] }
atom    = NUMBER | "-" POSITIVE | "null" | "this" | "input" "(" ")" | "new" NAME "(" ")" | NAME "::" NAME "(" [ expr { "," expr } ] ")" | NAME | "(" expr ")"
`

// vocabulary is a text of all keywords and marks and of some names and numbers.
const vocabulary = "class extends var def static if else while try catch throw return new null this input int :: == : { } ( ) ; , . = < + - * a B 0 7"

// part is a part of the right side of a rule: a terminal or the name of a rule (its text), or one of the kinds "and", "or", "maybe" and "many".
type part struct {
	kind string
	text string
	kids []*part
}

// grammar is the parts of the rules by their names.
type grammar map[string]*part

func readGrammar() grammar {
	g := grammar{}
	for _, line := range strings.Split(strings.TrimSpace(rules), "\n") {
		words := strings.Fields(line)
		g[words[0]], _ = readChoice(words[2:])
	}
	return g
}

// readChoice reads alternatives and returns them and the words that follow.
func readChoice(words []string) (*part, []string) {
	choice := &part{kind: "or"}
	for {
		list := &part{kind: "and"}
		for len(words) > 0 && !strings.Contains("|)]}", words[0]) {
			var p *part
			if i := strings.Index("([{", words[0]); i >= 0 {
				p, words = readChoice(words[1:])
				p = &part{kind: []string{"and", "maybe", "many"}[i], kids: []*part{p}}
			} else {
				p = &part{text: words[0]}
			}
			words = words[1:]
			list.kids = append(list.kids, p)
		}
		choice.kids = append(choice.kids, list)
		if len(words) == 0 || words[0] != "|" {
			return choice, words
		}
		words = words[1:]
	}
}

// stack is what is still to come in one derivation of a text: parts, the first one on top. It is nil at the end.
type stack struct {
	top  *part
	rest *stack
}

// push returns the stack with some parts on top.
func (s *stack) push(parts ...*part) *stack {
	for _, p := range slices.Backward(parts) {
		s = &stack{p, s}
	}
	return s
}

// fits reports whether a token is one for which a terminal stands.
func fits(terminal string, token api.Token) bool {
	switch terminal {
	case "NAME":
		return token.Kind == api.TokWord
	case "NUMBER":
		return token.Kind == api.TokNumber
	case "POSITIVE":
		return token.Kind == api.TokNumber && token.N > 0
	}
	return terminal == `"`+token.Text+`"`
}

// step returns the stacks after a token.
func (g grammar) step(s *stack, token api.Token) []*stack {
	if s == nil {
		return nil
	}
	all := []*stack{}
	for _, next := range g.open(s) {
		all = append(all, g.step(next, token)...)
	}
	if s.top.kind == "" && g[s.top.text] == nil && fits(s.top.text, token) {
		all = append(all, s.rest)
	}
	return all
}

// open returns the stacks with the top part replaced by what it stands for.
func (g grammar) open(s *stack) []*stack {
	all := []*stack{}
	switch s.top.kind {
	case "and":
		all = append(all, s.rest.push(s.top.kids...))
	case "or":
		for _, kid := range s.top.kids {
			all = append(all, s.rest.push(kid))
		}
	case "maybe":
		all = append(all, s.rest, s.rest.push(s.top.kids[0]))
	case "many":
		all = append(all, s.rest, s.push(s.top.kids[0]))
	default:
		if p := g[s.top.text]; p != nil {
			all = append(all, s.rest.push(p))
		}
	}
	return all
}

// mayEnd reports whether nothing more needs to come.
func (g grammar) mayEnd(s *stack) bool {
	return s == nil || slices.ContainsFunc(g.open(s), g.mayEnd)
}

// state is all derivations of the tokens so far. It has none where these are not the beginning of any text.
type state []*stack

func (g grammar) start(rule string) state { return state{(*stack)(nil).push(&part{text: rule})} }

func (g grammar) after(s state, token api.Token) state {
	var all state
	for _, one := range s {
		all = append(all, g.step(one, token)...)
	}
	return all
}

// wantFit is the model of the outcome of the syntax: the offset of the first token that does not fit and whether there is one.
func (g grammar) wantFit(rule string, tokens []api.Token) (int, bool) {
	s := g.start(rule)
	for _, token := range tokens[:len(tokens)-1] {
		s = g.after(s, token)
		if len(s) == 0 {
			return token.At, true
		}
	}
	return tokens[len(tokens)-1].At, !slices.ContainsFunc(s, g.mayEnd)
}

// outcome calls the function of a rule and returns its offset and its error.
func outcome(rule, s string) (int, api.Errno) {
	switch rule {
	case "program":
		_, at, e := Program(s)
		return at, e
	case "class":
		_, at, e := Class(s)
		return at, e
	case "method":
		_, at, e := Method(s)
		return at, e
	case "field":
		_, at, e := Field(s)
		return at, e
	}
	_, at, e := Expr(s)
	return at, e
}

// checkFit fails the test unless the function of a rule returns what the model does. The limits are not exceeded by so few tokens.
func (g grammar) checkFit(t *testing.T, rule, s string) {
	t.Helper()
	tokens, _, e := lex.Tokens(s)
	if e != api.OK {
		t.Fatalf("no tokens: %q", s)
	}
	wantAt, fault := g.wantFit(rule, tokens)
	wantE := api.ErrSyntax
	if !fault {
		wantAt, wantE = 0, api.OK
	}
	if at, e := outcome(rule, s); at != wantAt || e != wantE {
		t.Errorf("%s %q: %d %d, want %d %d", rule, s, at, int(e), wantAt, int(wantE))
	}
}

// fork checks the text so far with each token of the vocabulary behind it, and goes on with those that fit, as far as some more tokens.
func (g grammar) fork(t *testing.T, rule, text string, s state, more int) {
	t.Helper()
	for _, word := range strings.Fields(vocabulary) {
		tokens, _, _ := lex.Tokens(word)
		longer := text + word + " "
		g.checkFit(t, rule, longer)
		next := g.after(s, tokens[0])
		if len(next) > 0 && more > 1 {
			g.fork(t, rule, longer, next, more-1)
		}
	}
}

// stateAfter returns the state after a text.
func (g grammar) stateAfter(t *testing.T, rule, text string) state {
	t.Helper()
	s := g.start(rule)
	tokens, _, _ := lex.Tokens(text)
	for _, token := range tokens[:len(tokens)-1] {
		s = g.after(s, token)
	}
	if len(s) == 0 {
		t.Fatalf("no beginning: %q", text)
	}
	return s
}

// beginnings are beginnings of texts of the rules.
var beginnings = []struct{ rule, text string }{
	{"program", ""}, {"program", "class A { } "}, {"program", "class a { var b : int ; def c ( ) { "},
	{"class", ""}, {"class", "class A extends B { var f : A ; "}, {"class", "class A { def m ( ) { } "},
	{"field", ""}, {"field", "var x "},
	{"method", ""}, {"method", "static def m ( "}, {"method", "def m ( a : int , "}, {"method", "def m ( ) : "}, {"method", "def m ( ) { "},
	{"method", "def m ( ) { if ( a ) { } "}, {"method", "def m ( ) { if ( a ) { } else "}, {"method", "def m ( ) { try { } "}, {"method", "def m ( ) { try { } catch ( "}, {"method", "def m ( ) { while "},
	{"method", "def m ( ) { var x : int "}, {"method", "def m ( ) { return "}, {"method", "def m ( ) { throw 1 "},
	{"method", "def m ( ) { ( a ) "}, {"method", "def m ( ) { ( a . b ) "}, {"method", "def m ( ) { ( a . b ( ) ) "}, {"method", "def m ( ) { ( B :: b ( ) ) "}, {"method", "def m ( ) { ( ( a ) . b "},
	{"method", "def m ( ) { a . b ( ) "}, {"method", "def m ( ) { a . b "}, {"method", "def m ( ) { B :: b ( ) "}, {"method", "def m ( ) { - 7 "}, {"method", "def m ( ) { new B ( ) "}, {"method", "def m ( ) { this . a = "},
	{"expr", ""}, {"expr", "a < "}, {"expr", "a < b "}, {"expr", "a == b * "}, {"expr", "( a "}, {"expr", "a . b ( "}, {"expr", "a . b ( 7 "}, {"expr", "B :: b ( a "}, {"expr", "a - "}, {"expr", "input "}, {"expr", "new B "},
}

func TestFirstTokenThatDoesNotFit(t *testing.T) { // P8.1
	g := readGrammar()
	for _, b := range beginnings {
		g.checkFit(t, b.rule, b.text)
		g.fork(t, b.rule, b.text, g.stateAfter(t, b.rule, b.text), 2)
	}
	g.fork(t, "expr", "", g.start("expr"), 3)
	g.fork(t, "method", "def m ( ) { ", g.stateAfter(t, "method", "def m ( ) { "), 3)
}

func TestFirstTokenThatDoesNotFitInLongTexts(t *testing.T) { // P8.1
	g := readGrammar()
	words := strings.Fields(vocabulary)
	for seed := range uint(150) {
		rule := []string{"program", "class", "method", "method", "expr"}[seed%5]
		text, s := "", g.start(rule)
		for range 60 {
			fitting := slices.DeleteFunc(slices.Clone(words), func(word string) bool {
				tokens, _, _ := lex.Tokens(word)
				return len(g.after(s, tokens[0])) == 0
			})
			if len(fitting) == 0 {
				break
			}
			seed = seed*6364136223846793005 + 1442695040888963407
			wrong := words[seed>>33%uint(len(words))]
			right := fitting[seed>>40%uint(len(fitting))]
			g.checkFit(t, rule, text+wrong+" ; a "+right)
			text += right + " "
			g.checkFit(t, rule, text)
			s = g.stateAfter(t, rule, text)
		}
	}
}

func TestVocabularyIsComplete(t *testing.T) {
	tokens, _, e := lex.Tokens(vocabulary)
	if e != api.OK || len(tokens) != 17+15+4+1 {
		t.Errorf("%d tokens", len(tokens))
	}
	for _, token := range tokens {
		quoted := `"` + token.Text + `"`
		if (token.Kind == api.TokKeyword || token.Kind == api.TokMark) && !strings.Contains(rules, quoted) {
			t.Errorf("%s is not in the grammar", quoted)
		}
	}
}
