package ir

import (
	"reflect"
	"regexp"
	"slices"
	"strconv"
	"strings"

	"dataflow/api"
	"dataflow/hier"
	"dataflow/lex"
)

// The model follows the words of the chapter, from which it has its tables.

// constants are the operations by their names in package api.
var constants = map[int]string{
	api.INop: "INop", api.IConst: "IConst", api.INull: "INull", api.ICopy: "ICopy", api.IBin: "IBin", api.IInput: "IInput", api.INew: "INew", api.ILoad: "ILoad", api.IStore: "IStore",
	api.ICall: "ICall", api.IStatic: "IStatic", api.IBranch: "IBranch", api.IJump: "IJump", api.IReturn: "IReturn", api.IThrow: "IThrow", api.IShift: "IShift", api.ICatch: "ICatch",
}

const usedFields = "INop: none; IConst: Dst, N; INull, IInput: Dst; ICopy: Dst, A; IBin: Dst, A, B, N; INew, ICatch: Dst, Class; ILoad: Dst, A, Name; IStore: A, B, Name; ICall: Dst, A, Class, Name, Args; IStatic: Dst, Class, Name, Args; IBranch: A, Goto; IJump: Goto; IReturn, IThrow: A; IShift: Dst, A, N"

const forms = `INop nop
IConst const DST N
INull null DST
ICopy copy DST A
IBin bin DST A OP B
IInput input DST
INew new DST CLASS
ILoad load DST A NAME
IStore store A NAME B
ICall call DST A CLASS NAME ARGS
IStatic static DST CLASS NAME ARGS
IBranch branch A GOTO
IJump jump GOTO
IReturn return A
IThrow throw A
IShift shift DST A N
ICatch catch DST CLASS`

var signs = map[int64]string{api.OpAdd: "+", api.OpSub: "-", api.OpMul: "*", api.OpLess: "<", api.OpEqual: "=="}

// fieldOf has the field for which a word stands.
var fieldOf = map[string]string{"DST": "Dst", "A": "A", "B": "B", "N": "N", "CLASS": "Class", "NAME": "Name", "ARGS": "Args", "GOTO": "Goto", "OP": "N"}

// usesOf returns the fields that the operations use.
func usesOf() map[string][]string {
	uses := map[string][]string{}
	for _, part := range strings.Split(usedFields, "; ") {
		names, fields, _ := strings.Cut(part, ": ")
		for _, name := range strings.Split(names, ", ") {
			uses[name] = strings.Split(fields, ", ")
		}
	}
	return uses
}

// formsOf returns the words of the operations in the text of a unit.
func formsOf() map[string][]string {
	words := map[string][]string{}
	for _, line := range strings.Split(forms, "\n") {
		list := strings.Split(line, " ")
		words[list[0]] = list[1:]
	}
	return words
}

// model checks the units of a hierarchy.
type model struct {
	h    api.Hier
	uses map[string][]string
}

func (m model) class(t string) bool { return hier.Find(m.h, t) >= 0 }

func (m model) fits(from, to string) bool {
	return from == to || from == "null" && to != "int" || m.class(from) && m.class(to) && hier.IsSub(m.h, from, to)
}

// need is something that holds, or else an error.
type need struct {
	holds bool
	e     api.Errno
}

// first returns the first error.
func first(list ...need) api.Errno {
	for _, n := range list {
		if !n.holds {
			return n.e
		}
	}
	return api.OK
}

// instr returns the error of an instruction.
func (m model) instr(f api.Func, k int) api.Errno {
	i := f.Code[k]
	name, known := constants[i.Op]
	if !known || name == "IBin" && signs[i.N] == "" {
		return api.ErrKind
	}
	for _, field := range []string{"Dst", "A", "B", "N", "Class", "Name", "Args", "Goto"} {
		value := reflect.ValueOf(i).FieldByName(field)
		zero := value.IsZero() || field == "Args" && value.Len() == 0
		if !zero && !slices.Contains(m.uses[name], field) {
			return api.ErrInvalid
		}
	}
	if !m.ranges(f, i, name) {
		return api.ErrRange
	}
	catch := func(k int) bool { return k < len(f.Code) && f.Code[k].Op == api.ICatch }
	three := name == "IJump" || name == "IReturn" || name == "IThrow"
	switch {
	case k == len(f.Code)-1 && !three, !three && catch(k+1), (name == "IBranch" || name == "IJump") && catch(i.Goto), name == "ICatch" && k == 0:
		return api.ErrInvalid
	}
	return m.types(f, i, name)
}

// ranges reports whether the numbers of variables and instructions are in range.
func (m model) ranges(f api.Func, i api.Instr, name string) bool {
	operand := func(v int) bool { return v >= 0 && v < len(f.Vars) }
	for _, field := range m.uses[name] {
		switch field {
		case "Dst":
			if !operand(i.Dst) && !(i.Dst == -1 && (name == "ICall" || name == "IStatic")) {
				return false
			}
		case "A":
			if !operand(i.A) && !(i.A == -1 && name == "IReturn") {
				return false
			}
		case "B":
			if !operand(i.B) {
				return false
			}
		case "Args":
			if slices.ContainsFunc(i.Args, func(v int) bool { return !operand(v) }) {
				return false
			}
		case "Goto":
			if i.Goto < 0 || i.Goto > len(f.Code)-1 {
				return false
			}
		}
	}
	return i.Catch == -1 || i.Catch >= 0 && i.Catch < len(f.Code) && f.Code[i.Catch].Op == api.ICatch
}

// types returns the error of the types of an instruction.
func (m model) types(f api.Func, i api.Instr, name string) api.Errno {
	t := func(v int) string {
		if v < 0 {
			return ""
		}
		return f.Vars[v].Type
	}
	switch name {
	case "IConst", "IInput":
		return first(need{t(i.Dst) == "int", api.ErrType})
	case "INull":
		return first(need{t(i.Dst) != "int", api.ErrType})
	case "ICopy":
		return first(need{m.fits(t(i.A), t(i.Dst)), api.ErrType})
	case "IShift":
		return first(need{t(i.A) == "int", api.ErrType}, need{t(i.Dst) == "int", api.ErrType})
	case "IBranch":
		return first(need{t(i.A) == "int", api.ErrType})
	case "IThrow":
		return first(need{t(i.A) != "int", api.ErrType})
	case "IBin":
		integers := t(i.A) == "int" && t(i.B) == "int"
		references := t(i.A) != "int" && t(i.B) != "int"
		return first(need{t(i.Dst) == "int", api.ErrType}, need{integers || references && i.N == api.OpEqual, api.ErrType})
	case "INew", "ICatch":
		return first(need{m.class(i.Class), api.ErrUnknown}, need{m.fits(i.Class, t(i.Dst)), api.ErrType})
	case "ILoad":
		_, typ, found := hier.Field(m.h, t(i.A), i.Name)
		return first(need{m.class(t(i.A)), api.ErrType}, need{found, api.ErrUnknown}, need{m.fits(typ, t(i.Dst)), api.ErrType})
	case "IStore":
		_, typ, found := hier.Field(m.h, t(i.A), i.Name)
		return first(need{m.class(t(i.A)), api.ErrType}, need{found, api.ErrUnknown}, need{m.fits(t(i.B), typ), api.ErrType})
	case "ICall", "IStatic":
		return m.call(i, t)
	case "IReturn":
		return first(need{(i.A == -1) == (f.Result == ""), api.ErrArity}, need{i.A == -1 || m.fits(t(i.A), f.Result), api.ErrType})
	}
	return api.OK
}

// call returns the error of the types of a call.
func (m model) call(i api.Instr, t func(int) string) api.Errno {
	var sig api.Sig
	found := false
	if i.Op == api.ICall {
		if e := first(need{m.class(t(i.A)), api.ErrType}, need{t(i.A) == i.Class, api.ErrType}); e != api.OK {
			return e
		}
		_, sig, found = hier.Lookup(m.h, t(i.A), i.Name)
		found = found && !sig.Static
	} else {
		for _, c := range m.h.Classes {
			for _, s := range c.Methods {
				if c.Name == i.Class && s.Name == i.Name && s.Static {
					sig, found = s, true
				}
			}
		}
	}
	list := []need{{found, api.ErrUnknown}, {len(i.Args) == len(sig.Params), api.ErrArity}}
	for k := range min(len(i.Args), len(sig.Params)) {
		list = append(list, need{m.fits(t(i.Args[k]), sig.Params[k]), api.ErrType})
	}
	list = append(list, need{i.Dst == -1 || sig.Result != "" && m.fits(sig.Result, t(i.Dst)), api.ErrType})
	return first(list...)
}

var (
	identifier = regexp.MustCompile(`^[a-zA-Z][a-zA-Z0-9_]*$`)
	temporary  = regexp.MustCompile(`^\$(0|[1-9][0-9]*)$`)
)

// names reports whether a variable may have a name.
func names(name string, k int, static bool) bool {
	if temporary.MatchString(name) {
		_, err := strconv.ParseInt(name[1:], 10, 64)
		return err == nil
	}
	if name == "this" {
		return k == 0 && !static
	}
	return len(name) <= api.MaxName && identifier.MatchString(name) && !lex.Keyword(name)
}

// head returns the error of a function apart from its instructions.
func (m model) head(f api.Func, class string, sig api.Sig) api.Errno {
	var params []string
	if !sig.Static {
		params = []string{class}
	}
	params = append(params, sig.Params...)
	same := f.Class == class && f.Name == sig.Name && f.Static == sig.Static && f.Result == sig.Result && f.Params == len(params) && len(f.Vars) >= len(params)
	for k := range min(len(params), len(f.Vars)) {
		same = same && f.Vars[k].Type == params[k] && (sig.Static || k > 0 || f.Vars[k].Name == "this")
	}
	list := []need{{same, api.ErrMismatch}, {len(f.Vars) <= api.MaxVars && len(f.Code) <= api.MaxCode, api.ErrTooLong}}
	for k, v := range f.Vars {
		typ := v.Type == "int" || v.Type == "null" || m.class(v.Type)
		list = append(list, need{names(v.Name, k, f.Static), api.ErrName}, need{typ, api.ErrType})
	}
	return first(append(list, need{len(f.Code) > 0, api.ErrInvalid})...)
}

// modelCheck is the model of Check.
func modelCheck(u api.Unit) (int, int, api.Errno) {
	var heads []api.Sig
	var classes []string
	for _, c := range u.Hier.Classes {
		for _, sig := range c.Methods {
			heads, classes = append(heads, sig), append(classes, c.Name)
		}
	}
	_, e := hier.Check(u.Hier)
	main := api.Func{}
	if u.Main >= 0 && u.Main < len(u.Funcs) {
		main = u.Funcs[u.Main]
	}
	isMain := main.Class == "Main" && main.Name == "main" && main.Static && main.Params == 0 && main.Result == ""
	e = first(need{e == api.OK, e}, need{len(u.Funcs) <= api.MaxFuncs, api.ErrTooLong}, need{len(u.Funcs) == len(heads), api.ErrMismatch}, need{isMain, api.ErrMain})
	if e != api.OK {
		return -1, -1, e
	}
	m := model{u.Hier, usesOf()}
	sites := 0
	for n, f := range u.Funcs {
		if e := m.head(f, classes[n], heads[n]); e != api.OK {
			return n, -1, e
		}
		for k, i := range f.Code {
			if e := m.instr(f, k); e != api.OK {
				return n, k, e
			}
			if i.Op == api.INew {
				sites++
			}
		}
	}
	if sites > api.MaxSites {
		return -1, -1, api.ErrTooLong
	}
	return 0, 0, api.OK
}

// modelText is the model of Text for a valid unit, without its limit.
func modelText(u api.Unit) string {
	s := ""
	for _, c := range u.Hier.Classes {
		s += strings.TrimSuffix("class "+c.Name+" "+c.Super, " ") + "\n"
		for _, f := range c.Fields {
			s += "field " + f.Name + " " + f.Type + "\n"
		}
		for _, m := range c.Methods {
			kind := map[bool]string{true: "static", false: "virtual"}[m.Static]
			s += strings.Join(append([]string{"method", m.Name, kind, orDash(m.Result)}, m.Params...), " ") + "\n"
		}
	}
	templates := formsOf()
	for _, f := range u.Funcs {
		s += "func " + f.Class + " " + f.Name + "\n"
		for _, v := range f.Vars {
			s += "var " + v.Name + " " + v.Type + "\n"
		}
		for _, i := range f.Code {
			s += modelLine(i, templates[constants[i.Op]]) + "\n"
		}
	}
	return s
}

func orDash(s string) string {
	if s == "" {
		return "-"
	}
	return s
}

// modelLine writes an instruction.
func modelLine(i api.Instr, template []string) string {
	line := strconv.Itoa(i.Catch) + " " + template[0]
	for _, word := range template[1:] {
		value := reflect.ValueOf(i).FieldByName(fieldOf[word])
		switch word {
		case "OP":
			line += " " + signs[i.N]
		case "CLASS", "NAME":
			line += " " + value.String()
		case "ARGS":
			for _, v := range i.Args {
				line += " " + strconv.Itoa(v)
			}
		default:
			line += " " + strconv.FormatInt(value.Int(), 10)
		}
	}
	return line
}

// lineForms are the forms of lines by the letters of their kinds.
func lineForms() map[string]*regexp.Regexp {
	list := map[string]string{
		"c": `class WORD( WORD)?`,
		"f": `field WORD WORD`,
		"m": `method WORD (static|virtual) WORD( WORD)*`,
		"u": `func WORD WORD`,
		"v": `var WORD WORD`,
	}
	for name, template := range formsOf() {
		words := []string{"NUM", template[0]}
		for _, word := range template[1:] {
			words = append(words, map[string]string{"CLASS": "WORD", "NAME": "WORD", "OP": `([-+*<]|==)`, "ARGS": "ARGS"}[word])
			if words[len(words)-1] == "" {
				words[len(words)-1] = "NUM"
			}
		}
		list["i"+name] = strings.ReplaceAll(strings.Join(words, " "), " ARGS", "( NUM)*")
	}
	compiled := map[string]*regexp.Regexp{}
	for kind, form := range list {
		form = strings.ReplaceAll(strings.ReplaceAll(form, "WORD", `[^ \n]+`), "NUM", `(?:0|-?[1-9][0-9]*)`)
		compiled[kind] = regexp.MustCompile(`^(?s:` + form + `)$`)
	}
	return compiled
}

var sequence = regexp.MustCompile(`^(cf*m*)*(uv*i*)*$`)

// modelParse is the model of Parse.
func modelParse(s string, forms map[string]*regexp.Regexp) (api.Unit, int, api.Errno) {
	var u api.Unit
	if len(s) > api.MaxText {
		return u, 0, api.ErrTooLong
	}
	kinds := ""
	lines := strings.SplitAfter(s, "\n")
	for k, line := range lines {
		if line == "" {
			continue // after the last line feed
		}
		text, ended := strings.CutSuffix(line, "\n")
		kind := ""
		for name, form := range forms {
			if form.MatchString(text) {
				kind = name
			}
		}
		if !ended || kind == "" || !sequence.MatchString(kinds+kind[:1]) || !modelAdd(&u, kind, strings.Split(text, " ")) {
			return api.Unit{}, k + 1, api.ErrSyntax
		}
		kinds += kind[:1]
	}
	u.Main = -1
	for k := len(u.Funcs) - 1; k >= 0; k-- {
		modelHead(&u.Funcs[k], u.Hier)
		if u.Funcs[k].Class == "Main" && u.Funcs[k].Name == "main" {
			u.Main = k
		}
	}
	if _, _, e := modelCheck(u); e != api.OK {
		return api.Unit{}, 0, e
	}
	return u, 0, api.OK
}

// modelHead gives a function what the hierarchy tells of it.
func modelHead(f *api.Func, h api.Hier) {
	for _, c := range h.Classes {
		for _, m := range c.Methods {
			if c.Name == f.Class && m.Name == f.Name {
				f.Static, f.Params, f.Result = m.Static, len(m.Params), m.Result
				if !m.Static {
					f.Params++
				}
				return
			}
		}
	}
}

// modelAdd adds what a line says.
func modelAdd(u *api.Unit, kind string, words []string) bool {
	var c *api.ClassDecl
	var f *api.Func
	if len(u.Hier.Classes) > 0 {
		c = &u.Hier.Classes[len(u.Hier.Classes)-1]
	}
	if len(u.Funcs) > 0 {
		f = &u.Funcs[len(u.Funcs)-1]
	}
	switch kind {
	case "c":
		u.Hier.Classes = append(u.Hier.Classes, api.ClassDecl{Name: words[1], Super: strings.Join(words[2:], "")})
	case "f":
		c.Fields = append(c.Fields, api.Field{Name: words[1], Type: words[2]})
	case "m":
		c.Methods = append(c.Methods, api.Sig{Name: words[1], Static: words[2] == "static", Result: strings.TrimPrefix(words[3], "-"), Params: words[4:]})
		if words[3] != "-" {
			c.Methods[len(c.Methods)-1].Result = words[3]
		}
	case "u":
		u.Funcs = append(u.Funcs, api.Func{Class: words[1], Name: words[2]})
	case "v":
		f.Vars = append(f.Vars, api.Field{Name: words[1], Type: words[2]})
	default:
		return modelInstr(f, kind[1:], words)
	}
	return true
}

// modelInstr adds an instruction, unless one of its numbers is too large.
func modelInstr(f *api.Func, name string, words []string) bool {
	var i api.Instr
	for op := range constants {
		if constants[op] == name {
			i.Op = op
		}
	}
	ok := true
	integer := func(word string) int64 {
		n, err := strconv.ParseInt(word, 10, 64)
		ok = ok && err == nil
		return n
	}
	i.Catch = int(integer(words[0]))
	for k, word := range formsOf()[name][1:] {
		value := reflect.ValueOf(&i).Elem().FieldByName(fieldOf[word])
		switch word {
		case "OP":
			for n, sign := range signs {
				if sign == words[k+2] {
					i.N = n
				}
			}
		case "CLASS", "NAME":
			value.SetString(words[k+2])
		case "ARGS":
			for _, word := range words[k+2:] {
				i.Args = append(i.Args, int(integer(word)))
			}
		default:
			value.SetInt(integer(words[k+2]))
		}
	}
	f.Code = append(f.Code, i)
	return ok
}
