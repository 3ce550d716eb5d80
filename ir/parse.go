package ir

import (
	"slices"
	"strings"

	"dataflow/api"
)

// Kinds of lines, in the order in which they follow one another. The first one stands before all lines.
const (
	lineStart = iota
	lineClass
	lineField
	lineMethod
	lineFunc
	lineVar
	lineInstr
)

// places has for each kind of lines the first and the last kind of those that may stand before it.
var places = [...]struct{ first, last int }{
	lineClass:  {lineStart, lineMethod},
	lineField:  {lineClass, lineField},
	lineMethod: {lineClass, lineMethod},
	lineFunc:   {lineStart, lineInstr},
	lineVar:    {lineFunc, lineVar},
	lineInstr:  {lineFunc, lineInstr},
}

// reader reads a unit line by line.
type reader struct {
	u    api.Unit
	last int // the kind of the line before
}

// lines reads all lines of a text. Otherwise it returns the number of the first line that does not fit.
func (r *reader) lines(s string) (int, bool) {
	for at := 1; s != ""; at++ {
		line, rest, ended := strings.Cut(s, "\n")
		if !ended || !r.line(strings.Split(line, " ")) {
			return at, false
		}
		s = rest
	}
	return 0, true
}

// line reads a line, and reports whether it has a form that fits at its place.
func (r *reader) line(words []string) bool {
	kind := kindOf(words[0])
	if slices.Contains(words, "") || r.last < places[kind].first || r.last > places[kind].last {
		return false
	}
	r.last = kind
	switch kind {
	case lineClass:
		return r.class(words[1:])
	case lineField:
		return r.field(words[1:])
	case lineMethod:
		return r.method(words[1:])
	case lineFunc:
		return r.function(words[1:])
	case lineVar:
		return r.variable(words[1:])
	}
	return r.instruction(words)
}

// kindOf returns the kind of the lines with a first word.
func kindOf(word string) int {
	switch word {
	case "class":
		return lineClass
	case "field":
		return lineField
	case "method":
		return lineMethod
	case "func":
		return lineFunc
	case "var":
		return lineVar
	}
	return lineInstr
}

// latest returns the last element of a list that is not empty.
func latest[T any](list []T) *T { return &list[len(list)-1] }

func (r *reader) class(words []string) bool {
	if len(words) != 1 && len(words) != 2 {
		return false
	}
	c := api.ClassDecl{Name: words[0]}
	if len(words) == 2 {
		c.Super = words[1]
	}
	r.u.Hier.Classes = append(r.u.Hier.Classes, c)
	return true
}

func (r *reader) field(words []string) bool {
	if len(words) != 2 {
		return false
	}
	c := latest(r.u.Hier.Classes)
	c.Fields = append(c.Fields, api.Field{Name: words[0], Type: words[1]})
	return true
}

func (r *reader) method(words []string) bool {
	if len(words) < 3 || words[1] != "static" && words[1] != "virtual" {
		return false
	}
	sig := api.Sig{Name: words[0], Static: words[1] == "static", Params: words[3:]}
	if words[2] != "-" {
		sig.Result = words[2]
	}
	c := latest(r.u.Hier.Classes)
	c.Methods = append(c.Methods, sig)
	return true
}

func (r *reader) function(words []string) bool {
	if len(words) != 2 {
		return false
	}
	r.u.Funcs = append(r.u.Funcs, api.Func{Class: words[0], Name: words[1]})
	return true
}

func (r *reader) variable(words []string) bool {
	if len(words) != 2 {
		return false
	}
	f := latest(r.u.Funcs)
	f.Vars = append(f.Vars, api.Field{Name: words[0], Type: words[1]})
	return true
}

func (r *reader) instruction(words []string) bool {
	if len(words) < 2 {
		return false
	}
	catch, isNumber := number(words[0])
	op := operationNamed(words[1])
	if !isNumber || op < 0 {
		return false
	}
	i, fits := instructionOf(op, words[2:])
	i.Catch = int(catch)
	f := latest(r.u.Funcs)
	f.Code = append(f.Code, i)
	return fits
}

// operationNamed returns the number of the operation with a name, or -1.
func operationNamed(name string) int {
	for op := range operations {
		if operations[op].name == name {
			return op
		}
	}
	return -1
}

// instructionOf returns the instruction of an operation with the words that follow it.
func instructionOf(op int, list []string) (api.Instr, bool) {
	i := api.Instr{Op: op}
	for _, letter := range words(op) {
		// The list of arguments is at the end of a line, and may be empty.
		if letter == 'l' {
			fits := readArgs(&i, list)
			return i, fits
		}
		if len(list) == 0 || !readWord(&i, letter, list[0]) {
			return i, false
		}
		list = list[1:]
	}
	return i, len(list) == 0
}

// readWord reads the field for which a letter stands.
func readWord(i *api.Instr, letter rune, word string) bool {
	if letter == 'o' {
		i.N = operatorNamed(word)
		return isOperator(i.N)
	}
	p := field(i, letter)
	if text, isText := p.(*string); isText {
		*text = word
		return true
	}
	n, isNumber := number(word)
	switch p := p.(type) {
	case *int:
		*p = int(n)
	case *int64:
		*p = n
	}
	return isNumber
}

// operatorNamed returns the number of the operator with a text, or 0.
func operatorNamed(text string) int64 {
	for n := range operators {
		if operators[n] == text {
			return int64(n)
		}
	}
	return 0
}

// readArgs reads the arguments of a call.
func readArgs(i *api.Instr, list []string) bool {
	for _, word := range list {
		v, isNumber := number(word)
		if !isNumber {
			return false
		}
		i.Args = append(i.Args, int(v))
	}
	return true
}

// complete gives the functions of a unit what their lines do not tell, and finds the main function.
func complete(u *api.Unit) {
	heads := map[pair]method{}
	for _, m := range slices.Backward(methodsOf(u.Hier)) {
		heads[pair{m.class, m.sig.Name}] = m // the first one stays
	}
	for k := range u.Funcs {
		f := &u.Funcs[k]
		if m, found := heads[pair{f.Class, f.Name}]; found {
			f.Static, f.Params, f.Result = m.sig.Static, m.params(), m.sig.Result
		}
	}
	u.Main = Find(*u, "Main", "main")
}
