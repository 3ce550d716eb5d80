package ir

import (
	"math"
	"slices"
	"strconv"
	"strings"
	"testing"

	"dataflow/api"
	"dataflow/lower"
	"dataflow/parse"
)

// unit returns the unit of a program.
func unit(t *testing.T, text string) api.Unit {
	t.Helper()
	src, _, e := parse.Program(text)
	if e != api.OK {
		t.Fatalf("%s: %d", text, int(e))
	}
	u, e := lower.Program(src)
	if e != api.OK {
		t.Fatalf("%s: %d", text, int(e))
	}
	return u
}

// result is what Check returns.
type result struct {
	fn, at int
	e      api.Errno
}

func checked(u api.Unit) result {
	fn, at, e := Check(u)
	return result{fn, at, e}
}

const tiny = "class Main\nmethod main static -\nfunc Main main\n-1 return -1\n"

// read returns the unit of a text.
func read(t *testing.T, text string) api.Unit {
	t.Helper()
	u, line, e := Parse(text)
	if e != api.OK {
		t.Fatalf("%s: %d in line %d", text, int(e), line)
	}
	return u
}

func TestCheckExample(t *testing.T) { // P13.1
	u := unit(t, "class A { def m() { } } class Main { static def main() { var x: int = 3; } }")
	if r := checked(u); r != (result{0, 0, api.OK}) {
		t.Error(r)
	}
	if len(u.Funcs[1].Vars) != 2 || u.Funcs[1].Code[0].Op != api.IConst {
		t.Fatal(u.Funcs[1])
	}
	u.Funcs[1].Code[0].Dst = 9
	if r := checked(u); r != (result{1, 0, api.ErrRange}) {
		t.Error(r)
	}
}

func TestCheckOfUnits(t *testing.T) { // P13.1
	whole := func(change func(u *api.Unit)) result {
		u := read(t, "class A\nmethod m virtual -\nclass Main\nmethod main static -\nfunc A m\nvar this A\n-1 return -1\nfunc Main main\n-1 return -1\n")
		change(&u)
		return checked(u)
	}
	for name, c := range map[string]struct {
		change func(u *api.Unit)
		e      api.Errno
	}{
		"an invalid hierarchy":          {func(u *api.Unit) { u.Hier.Classes[0].Super = "A" }, api.ErrCycle},
		"too many classes":              {func(u *api.Unit) { u.Hier.Classes = make([]api.ClassDecl, api.MaxClasses+1) }, api.ErrTooLong},
		"an invalid hierarchy, no main": {func(u *api.Unit) { u.Hier.Classes[0].Name, u.Main = "class", -1 }, api.ErrName},
		"a function too few":            {func(u *api.Unit) { u.Funcs = u.Funcs[:1] }, api.ErrMismatch},
		"a function too few, no main":   {func(u *api.Unit) { u.Funcs, u.Main = u.Funcs[:1], -1 }, api.ErrMismatch},
		"a function too many":           {func(u *api.Unit) { u.Funcs = append(u.Funcs, u.Funcs[0]) }, api.ErrMismatch},
		"far too many functions":        {func(u *api.Unit) { u.Funcs = make([]api.Func, api.MaxFuncs+1) }, api.ErrTooLong},
		"a main out of range":           {func(u *api.Unit) { u.Main = 2 }, api.ErrMain},
		"a main below":                  {func(u *api.Unit) { u.Main = -1 }, api.ErrMain},
		"another main":                  {func(u *api.Unit) { u.Main = 0 }, api.ErrMain},
		"a main of another class":       {func(u *api.Unit) { u.Funcs[1].Class = "A" }, api.ErrMain},
		"a main of another name":        {func(u *api.Unit) { u.Funcs[1].Name = "m" }, api.ErrMain},
		"a main that is not static":     {func(u *api.Unit) { u.Funcs[1].Static = false }, api.ErrMain},
		"a main with parameters":        {func(u *api.Unit) { u.Funcs[1].Params = 1 }, api.ErrMain},
		"a main with a result":          {func(u *api.Unit) { u.Funcs[1].Result = "int" }, api.ErrMain},
		"a main that is wrong, and A.m": {func(u *api.Unit) { u.Funcs[1].Params, u.Funcs[0].Params = 1, 0 }, api.ErrMain},
	} {
		if r := whole(c.change); r != (result{-1, -1, c.e}) {
			t.Errorf("%s: %v, not %d", name, r, int(c.e))
		}
	}
	if r := whole(func(u *api.Unit) { u.Hier.Classes[1].Methods[0].Result = "int" }); r != (result{1, -1, api.ErrMismatch}) {
		t.Error(r)
	}
	if r := checked(api.Unit{}); r != (result{-1, -1, api.ErrMain}) {
		t.Error(r)
	}
}

func TestCheckOfFunctions(t *testing.T) { // P13.1
	text := "class A\nmethod m virtual int int A\nmethod s static - int\nclass Main\nmethod main static -\n" +
		"func A m\nvar this A\nvar a int\nvar b A\nvar $0 null\n-1 return 1\nfunc A s\nvar a int\n-1 return -1\nfunc Main main\n-1 return -1\n"
	for name, c := range map[string]struct {
		change func(f []api.Func)
		want   result
	}{
		"as it is":                       {func(f []api.Func) {}, result{}},
		"another class":                  {func(f []api.Func) { f[0].Class = "Main" }, result{0, -1, api.ErrMismatch}},
		"another name":                   {func(f []api.Func) { f[0].Name = "s" }, result{0, -1, api.ErrMismatch}},
		"static":                         {func(f []api.Func) { f[0].Static = true }, result{0, -1, api.ErrMismatch}},
		"not static":                     {func(f []api.Func) { f[1].Static = false }, result{1, -1, api.ErrMismatch}},
		"another result":                 {func(f []api.Func) { f[0].Result = "A" }, result{0, -1, api.ErrMismatch}},
		"without this":                   {func(f []api.Func) { f[0].Params = 2 }, result{0, -1, api.ErrMismatch}},
		"a parameter too many":           {func(f []api.Func) { f[0].Params = 4 }, result{0, -1, api.ErrMismatch}},
		"too few variables":              {func(f []api.Func) { f[0].Vars = f[0].Vars[:2] }, result{0, -1, api.ErrMismatch}},
		"no variables":                   {func(f []api.Func) { f[1].Vars = nil }, result{1, -1, api.ErrMismatch}},
		"this with another name":         {func(f []api.Func) { f[0].Vars[0].Name = "self" }, result{0, -1, api.ErrMismatch}},
		"this with another type":         {func(f []api.Func) { f[0].Vars[0].Type = "Main" }, result{0, -1, api.ErrMismatch}},
		"a parameter of another type":    {func(f []api.Func) { f[0].Vars[2].Type = "int" }, result{0, -1, api.ErrMismatch}},
		"a static one of another type":   {func(f []api.Func) { f[1].Vars[0].Type = "A" }, result{1, -1, api.ErrMismatch}},
		"the second one is wrong first":  {func(f []api.Func) { f[1].Static, f[0].Code[0].A = false, 0 }, result{0, 0, api.ErrType}},
		"this again":                     {func(f []api.Func) { f[0].Vars[3].Name = "this" }, result{0, -1, api.ErrName}},
		"this in a static one":           {func(f []api.Func) { f[1].Vars[0].Name = "this" }, result{1, -1, api.ErrName}},
		"a parameter that is a number":   {func(f []api.Func) { f[1].Vars[0].Name = "$7" }, result{}},
		"a parameter and another one":    {func(f []api.Func) { f[0].Vars[1].Name = "b" }, result{}},
		"a name that is no identifier":   {func(f []api.Func) { f[0].Vars[1].Name = "1" }, result{0, -1, api.ErrName}},
		"a keyword":                      {func(f []api.Func) { f[0].Vars[1].Name = "int" }, result{0, -1, api.ErrName}},
		"an empty name":                  {func(f []api.Func) { f[0].Vars[1].Name = "" }, result{0, -1, api.ErrName}},
		"a long name":                    {func(f []api.Func) { f[0].Vars[1].Name = strings.Repeat("a", 32) }, result{}},
		"a name that is too long":        {func(f []api.Func) { f[0].Vars[1].Name = strings.Repeat("a", 33) }, result{0, -1, api.ErrName}},
		"$":                              {func(f []api.Func) { f[0].Vars[3].Name = "$" }, result{0, -1, api.ErrName}},
		"$ and a leading zero":           {func(f []api.Func) { f[0].Vars[3].Name = "$00" }, result{0, -1, api.ErrName}},
		"$ and a sign":                   {func(f []api.Func) { f[0].Vars[3].Name = "$-0" }, result{0, -1, api.ErrName}},
		"$ and a negative number":        {func(f []api.Func) { f[0].Vars[3].Name = "$-1" }, result{0, -1, api.ErrName}},
		"$ and the greatest number":      {func(f []api.Func) { f[0].Vars[3].Name = "$9223372036854775807" }, result{}},
		"$ and a greater one":            {func(f []api.Func) { f[0].Vars[3].Name = "$9223372036854775808" }, result{0, -1, api.ErrName}},
		"a name before a type":           {func(f []api.Func) { f[0].Vars[3] = api.Field{Name: "", Type: ""} }, result{0, -1, api.ErrName}},
		"a type before the next name":    {func(f []api.Func) { f[0].Vars[1].Name, f[0].Vars[3].Type = "x", "X" }, result{0, -1, api.ErrType}},
		"no type":                        {func(f []api.Func) { f[0].Vars[3].Type = "" }, result{0, -1, api.ErrType}},
		"a type of a class":              {func(f []api.Func) { f[0].Vars[3].Type = "Main" }, result{}},
		"no instructions":                {func(f []api.Func) { f[0].Code = nil }, result{0, -1, api.ErrInvalid}},
		"no instructions, a wrong type":  {func(f []api.Func) { f[0].Code, f[0].Vars[3].Type = nil, "X" }, result{0, -1, api.ErrType}},
		"an instruction of the last one": {func(f []api.Func) { f[2].Code[0].Op = 17 }, result{2, 0, api.ErrKind}},
	} {
		u := read(t, text)
		c.change(u.Funcs)
		if r := checked(u); r != c.want {
			t.Errorf("%s: %v, not %v", name, r, c.want)
		}
	}
}

// small is a function of a world with a variable of each type, in which single instructions are checked.
const small = "class A\nfield f int\nfield g A\nfield h B\nmethod m virtual int int\nmethod n virtual - A B\nmethod k virtual int int A\nmethod s static B\nclass B A\nclass Main\nmethod main static -\n" +
	"func A m\nvar this A\nvar a int\n-1 return 1\nfunc A n\nvar this A\nvar a A\nvar b B\n-1 return -1\n" +
	"func A k\nvar this A\nvar i int\nvar a A\nvar b B\nvar m Main\nvar o null\nvar j int\n-1 jump 3\n-1 nop\n-1 jump 3\n-1 return 1\n-1 catch 2 A\n-1 return 1\n" +
	"func A s\nvar o B\n-1 return 0\nfunc Main main\n-1 return -1\n"

// choices has all instructions of an operation with small numbers in the fields that it uses.
func choices(op int) []api.Instr {
	list := []api.Instr{{Op: op, Catch: -1}}
	// times replaces each instruction by those that a function makes of it for each number.
	times := func(n int, set func(i *api.Instr, k int)) {
		var more []api.Instr
		for _, i := range list {
			for k := range n {
				set(&i, k)
				more = append(more, i)
			}
		}
		list = more
	}
	for _, field := range usesOf()[constants[op]] {
		switch field {
		case "Dst":
			times(9, func(i *api.Instr, k int) { i.Dst = k - 1 })
		case "A":
			times(9, func(i *api.Instr, k int) { i.A = k - 1 })
		case "B":
			times(9, func(i *api.Instr, k int) { i.B = k - 1 })
		case "N":
			times(8, func(i *api.Instr, k int) { i.N = int64(k - 1) })
		case "Class":
			times(7, func(i *api.Instr, k int) { i.Class = []string{"", "A", "B", "Main", "int", "null", "X"}[k] })
		case "Name":
			times(7, func(i *api.Instr, k int) { i.Name = []string{"", "f", "g", "h", "m", "n", "s"}[k] })
		case "Args":
			args := [][]int{nil, {1}, {5}, {2, 3}, {3, 5}, {3, 2}, {1, 3}, {7}, {-1}}
			times(len(args), func(i *api.Instr, k int) { i.Args = args[k] })
		case "Goto":
			times(8, func(i *api.Instr, k int) { i.Goto = k - 1 })
		}
	}
	return list
}

func TestCheckOfAllInstructions(t *testing.T) { // P13.1
	u := read(t, small)
	code := u.Funcs[2].Code
	m := model{u.Hier, usesOf()}
	counts := map[string]map[api.Errno]int{}
	for op := range constants {
		for _, i := range choices(op) {
			code[1] = i
			want := m.instr(u.Funcs[2], 1)
			expected := result{2, 1, want}
			if want == api.OK {
				expected = result{}
			}
			if r := checked(u); r != expected {
				t.Fatalf("%v: %v, not %v", i, r, expected)
			}
			name := constants[op]
			if counts[name] == nil {
				counts[name] = map[api.Errno]int{}
			}
			counts[name][want]++
		}
	}
	for name, errors := range map[string][]api.Errno{
		"INop": {api.OK}, "IConst": {api.ErrRange, api.ErrType}, "IInput": {api.ErrRange, api.ErrType}, "INull": {api.ErrRange, api.ErrType}, "ICopy": {api.ErrRange, api.ErrType},
		"IBin": {api.ErrKind, api.ErrRange, api.ErrType}, "IShift": {api.ErrRange, api.ErrType}, "IBranch": {api.ErrRange, api.ErrType, api.ErrInvalid}, "IJump": {api.ErrRange, api.ErrInvalid}, "IThrow": {api.ErrRange, api.ErrType},
		"INew": {api.ErrRange, api.ErrUnknown, api.ErrType}, "ICatch": {api.ErrRange, api.ErrUnknown, api.ErrType}, "ILoad": {api.ErrRange, api.ErrUnknown, api.ErrType}, "IStore": {api.ErrRange, api.ErrUnknown, api.ErrType},
		"ICall": {api.ErrRange, api.ErrUnknown, api.ErrArity, api.ErrType}, "IStatic": {api.ErrRange, api.ErrUnknown, api.ErrArity, api.ErrType}, "IReturn": {api.ErrRange, api.ErrArity, api.ErrType},
	} {
		for _, e := range append(errors, api.OK) {
			if counts[name][e] == 0 {
				t.Errorf("the error %d does not occur for %s", int(e), name)
			}
		}
	}
}

func TestCheckOfUnusedFields(t *testing.T) { // P13.1
	u := read(t, small)
	uses := usesOf()
	for op, name := range constants {
		for _, field := range []string{"Dst", "A", "B", "N", "Class", "Name", "Args", "Goto"} {
			i := api.Instr{Op: op, N: int64(map[bool]int{true: 1}[op == api.IBin]), Catch: 9}
			switch field {
			case "Dst":
				i.Dst = -1
			case "A":
				i.A = -1
			case "B":
				i.B = -1
			case "N":
				i.N = 5
			case "Class":
				i.Class = "X"
			case "Name":
				i.Name = "X"
			case "Args":
				i.Args = []int{-1}
			case "Goto":
				i.Goto = -1
			}
			want := result{2, 1, api.ErrInvalid}
			if slices.Contains(uses[name], field) {
				want.e = api.ErrRange // of Catch, if no other
			}
			u.Funcs[2].Code[1] = i
			if r := checked(u); r != want {
				t.Errorf("%s with %s: %v, not %v", name, field, r, want)
			}
		}
		u.Funcs[2].Code[1] = api.Instr{Op: op, N: int64(map[bool]int{true: 1}[op == api.IBin]), Args: []int{}, Catch: -1}
		if r := checked(u); r.e == api.ErrInvalid {
			t.Errorf("%s with an empty list of arguments: %v", name, r)
		}
	}
}

func TestCheckOfControl(t *testing.T) { // P13.1
	head := "class A\nclass Main\nmethod main static -\nfunc Main main\nvar a A\nvar i int\n"
	for lines, want := range map[string]result{
		"-1 nop":                                                                {0, 0, api.ErrInvalid},
		"-1 branch 1 0":                                                         {0, 0, api.ErrInvalid},
		"-1 jump 0":                                                             {},
		"-1 throw 0":                                                            {},
		"-1 jump 1":                                                             {0, 0, api.ErrRange},
		"-1 catch 0 A; -1 return -1":                                            {0, 0, api.ErrInvalid},
		"0 throw 0; -1 catch 0 A; -1 return -1":                                 {0, 0, api.ErrRange},
		"1 throw 0; -1 catch 0 A; -1 return -1":                                 {},
		"2 throw 0; -1 catch 0 A; -1 return -1":                                 {0, 0, api.ErrRange},
		"3 throw 0; -1 catch 0 A; -1 return -1":                                 {0, 0, api.ErrRange},
		"-2 throw 0; -1 catch 0 A; -1 return -1":                                {0, 0, api.ErrRange},
		"1 throw 0; 1 catch 0 A; -1 return -1":                                  {},
		"1 throw 0; -1 catch 0 A":                                               {0, 1, api.ErrInvalid},
		"1 return -1; -1 catch 0 A; -1 return -1":                               {},
		"1 jump 2; -1 catch 0 A; -1 return -1":                                  {},
		"1 jump 1; -1 catch 0 A; -1 return -1":                                  {0, 0, api.ErrInvalid},
		"1 nop; -1 catch 0 A; -1 return -1":                                     {0, 0, api.ErrInvalid},
		"1 branch 1 2; -1 catch 0 A; -1 return -1":                              {0, 0, api.ErrInvalid},
		"-1 nop; -1 jump 3; -1 catch 0 A; 2 return -1":                          {},
		"-1 branch 1 2; -1 jump 3; -1 catch 0 A; -1 return -1":                  {0, 0, api.ErrInvalid},
		"-1 branch 1 3; -1 jump 3; -1 catch 0 A; -1 return -1":                  {},
		"-1 jump 3; -1 catch 0 A; -1 catch 0 A; -1 return -1":                   {0, 1, api.ErrInvalid},
		"-1 jump 3; -1 catch 0 A; -1 jump 3; 4 jump 2; 1 catch 0 A; -1 throw 0": {},
	} {
		s := head + strings.ReplaceAll(lines, "; ", "\n") + "\n"
		u, line, e := Parse(s)
		if line != 0 || e != want.e || e != api.OK && len(u.Funcs) != 0 {
			t.Errorf("%s: %d in line %d", lines, int(e), line)
		}
		u, _, e = modelParse(s, lineForms())
		if e != want.e {
			t.Fatalf("%s: the model has %d", lines, int(e))
		}
		if e == api.OK && checked(u) != want {
			t.Errorf("%s: %v", lines, checked(u))
		}
	}
}

func TestCheckOfOneError(t *testing.T) { // P13.1
	u := read(t, small)
	i := &u.Funcs[2].Code[1]
	for _, c := range []struct {
		i api.Instr
		e api.Errno
	}{
		// Each of them has an error of a later kind, too.
		{api.Instr{Op: 17, Dst: 9, Catch: 9}, api.ErrKind},
		{api.Instr{Op: -1, Dst: 9, Catch: 9}, api.ErrKind},
		{api.Instr{Op: api.IBin, Class: "A", Dst: 9, Catch: 9}, api.ErrKind},
		{api.Instr{Op: api.IBin, N: 6, Class: "A", Dst: 9, Catch: 9}, api.ErrKind},
		{api.Instr{Op: api.IBin, N: 1, Class: "A", Dst: 9, Catch: 9}, api.ErrInvalid},
		{api.Instr{Op: api.IBin, N: 1, Dst: 9, Catch: -1}, api.ErrRange},
		{api.Instr{Op: api.IJump, Goto: 4, Catch: 9}, api.ErrRange},
		{api.Instr{Op: api.IBranch, A: 2, Goto: 4, Catch: -1}, api.ErrInvalid},
		{api.Instr{Op: api.INew, Dst: 1, Class: "X", Catch: -1}, api.ErrUnknown},
		{api.Instr{Op: api.ILoad, A: 5, Dst: 2, Name: "f", Catch: -1}, api.ErrType},
		{api.Instr{Op: api.ILoad, A: 1, Dst: 1, Name: "X", Catch: -1}, api.ErrType},
		{api.Instr{Op: api.ILoad, A: 3, Dst: 2, Name: "X", Catch: -1}, api.ErrUnknown},
		{api.Instr{Op: api.ILoad, A: 3, Dst: 1, Name: "f", Catch: -1}, api.OK},
		{api.Instr{Op: api.ICall, A: 3, Class: "A", Name: "X", Catch: -1}, api.ErrType},
		{api.Instr{Op: api.ICall, A: 3, Class: "B", Name: "X", Catch: -1}, api.ErrUnknown},
		{api.Instr{Op: api.ICall, A: 3, Dst: 1, Class: "B", Name: "m", Args: []int{1}, Catch: -1}, api.OK},
		{api.Instr{Op: api.ICall, A: 3, Dst: 2, Class: "B", Name: "m", Args: []int{2, 2}, Catch: -1}, api.ErrArity},
		{api.Instr{Op: api.IStatic, Dst: 3, Class: "A", Name: "s", Catch: -1}, api.OK},
		{api.Instr{Op: api.IStatic, Dst: 3, Class: "B", Name: "s", Args: []int{1}, Catch: -1}, api.ErrUnknown},
		{api.Instr{Op: api.IStatic, Dst: 1, Class: "A", Name: "s", Args: []int{1}, Catch: -1}, api.ErrArity},
		{api.Instr{Op: api.IReturn, A: -1, Catch: -1}, api.ErrArity},
		{api.Instr{Op: api.IReturn, A: 2, Catch: -1}, api.ErrType},
	} {
		*i = c.i
		want := result{2, 1, c.e}
		if c.e == api.OK {
			want = result{}
		}
		if r := checked(u); r != want {
			t.Errorf("%v: %v, not %v", c.i, r, want)
		}
	}
}

func TestCheckLikeTheModel(t *testing.T) { // P13.1, P13.6
	type kind struct {
		place string
		e     api.Errno
	}
	counts := map[kind]int{}
	c := &chance{1}
	for seed := range uint(150) {
		whole := sample(seed, 1+int(seed%4))
		for range 80 {
			u := varied(c, whole)
			if c.upTo(8) == 0 {
				u = varied(c, u)
			}
			var want result
			want.fn, want.at, want.e = modelCheck(u)
			before := copied(u)
			if r := checked(u); r != want {
				t.Fatalf("seed %d: %v, not %v", seed, r, want)
			}
			if !Same(u, before) {
				t.Fatalf("seed %d: Check changes the unit", seed)
			}
			place := "instruction"
			if want.at < 0 {
				place = "function"
			}
			if want.fn < 0 {
				place = "unit"
			}
			counts[kind{place, want.e}]++
			if want.e == api.OK {
				staysInCode(t, u)
			}
		}
	}
	for _, k := range []kind{
		{"unit", api.ErrMain}, {"unit", api.ErrMismatch}, {"unit", api.ErrUnknown}, {"unit", api.ErrName}, {"function", api.ErrMismatch}, {"function", api.ErrName}, {"function", api.ErrType}, {"function", api.ErrInvalid},
		{"instruction", api.ErrKind}, {"instruction", api.ErrInvalid}, {"instruction", api.ErrRange}, {"instruction", api.ErrType}, {"instruction", api.ErrUnknown}, {"instruction", api.ErrArity}, {"instruction", api.OK},
	} {
		if counts[k] < 10 {
			t.Errorf("%v occurs %d times", k, counts[k])
		}
	}
}

// staysInCode fails unless control stays in the code of a valid unit.
func staysInCode(t *testing.T, u api.Unit) { // P13.6
	t.Helper()
	for _, f := range u.Funcs {
		for k, i := range f.Code {
			next := Next(f, k)
			if len(next) == 0 && i.Op != api.IReturn && i.Op != api.IThrow {
				t.Fatalf("nothing follows %v", i)
			}
			for _, n := range next {
				if f.Code[n].Op == api.ICatch {
					t.Fatalf("a handler follows %v", i)
				}
			}
		}
	}
}

// many returns a unit with methods m0, m1 and so on in classes of 16 methods, and a main that ends at once.
func many(t *testing.T, methods int, code string) api.Unit {
	t.Helper()
	var classes, funcs strings.Builder
	for k := range methods {
		class := "A" + strconv.Itoa(k/api.MaxMethods)
		if k%api.MaxMethods == 0 {
			classes.WriteString("class " + class + "\n")
		}
		classes.WriteString("method m" + strconv.Itoa(k) + " static -\n")
		funcs.WriteString("func " + class + " m" + strconv.Itoa(k) + "\n" + code)
	}
	return read(t, classes.String()+"class Main\nmethod main static -\n"+funcs.String()+"func Main main\n-1 return -1\n")
}

func TestCheckLimits(t *testing.T) { // P13.1
	u := many(t, api.MaxFuncs-1, "-1 return -1\n")
	if r := checked(u); r != (result{}) {
		t.Error(r)
	}
	u = many(t, api.MaxFuncs-1, "-1 return -1\n")
	u.Funcs = append(u.Funcs, u.Funcs[0])
	u.Hier.Classes[15].Methods = append(u.Hier.Classes[15].Methods, api.Sig{Name: "x", Static: true})
	if r := checked(u); r != (result{-1, -1, api.ErrTooLong}) {
		t.Error(r)
	}

	u = many(t, 3, "var x A0\n-1 new 0 A0\n-1 return -1\n")
	main := &u.Funcs[3]
	for len(main.Vars) < api.MaxVars {
		main.Vars = append(main.Vars, api.Field{Name: "$" + strconv.Itoa(len(main.Vars)), Type: "A0"})
	}
	for len(main.Code) < api.MaxCode {
		main.Code = slices.Insert(main.Code, 0, api.Instr{Op: api.INew, Dst: 255, Class: "A0", Catch: -1})
	}
	if r := checked(u); r != (result{-1, -1, api.ErrTooLong}) { // there are 1023 + 3 sites
		t.Error(r)
	}
	main.Code[1000] = api.Instr{Op: api.INop, Catch: -1}
	if r := checked(u); r != (result{-1, -1, api.ErrTooLong}) {
		t.Error(r)
	}
	main.Code[0].Dst = 256
	if r := checked(u); r != (result{3, 0, api.ErrRange}) {
		t.Error(r)
	}
	main.Code[0] = api.Instr{Op: api.INop, Catch: -1}
	if r := checked(u); r != (result{}) {
		t.Error(r)
	}
	whole := copied(u)
	whole.Funcs[3].Vars = append(whole.Funcs[3].Vars, api.Field{Name: "1", Type: "X"})
	if r := checked(whole); r != (result{3, -1, api.ErrTooLong}) {
		t.Error(r)
	}
	main.Code = slices.Insert(main.Code, 0, api.Instr{Op: 99})
	if r := checked(u); r != (result{3, -1, api.ErrTooLong}) {
		t.Error(r)
	}
	main.Vars[3].Name = ""
	if r := checked(u); r != (result{3, -1, api.ErrTooLong}) {
		t.Error(r)
	}
}

func TestCheckOfALargeUnit(t *testing.T) { // R1
	h := api.Hier{Classes: []api.ClassDecl{{Name: "Main", Methods: []api.Sig{{Name: "main", Static: true}}}}}
	u := api.Unit{Funcs: []api.Func{{Class: "Main", Name: "main", Static: true, Code: []api.Instr{{Op: api.IReturn, A: -1, Catch: -1}}}}}
	params := []string{"int", "C0", "C1", "C2", "C3", "C4"}
	for k := range api.MaxClasses - 1 {
		c := api.ClassDecl{Name: "C" + strconv.Itoa(k)}
		if k > 0 {
			c.Super = "C" + strconv.Itoa(k-1)
		}
		c.Fields = []api.Field{{Name: "f" + strconv.Itoa(k), Type: "int"}}
		if k < 5 || k > 62-250/16 {
			for n := range api.MaxMethods {
				if len(u.Funcs) < api.MaxFuncs {
					name := "m" + strconv.Itoa(k) + "_" + strconv.Itoa(n)
					c.Methods = append(c.Methods, api.Sig{Name: name, Params: params})
					u.Funcs = append(u.Funcs, api.Func{Class: c.Name, Name: name, Params: 7})
				}
			}
		}
		h.Classes = append(h.Classes, c)
	}
	u.Hier = h
	for n := 1; n < len(u.Funcs); n++ {
		f := &u.Funcs[n]
		f.Vars = []api.Field{{Name: "this", Type: f.Class}}
		for k, typ := range params {
			f.Vars = append(f.Vars, api.Field{Name: "a" + strconv.Itoa(k), Type: typ})
		}
		f.Vars = append(f.Vars, api.Field{Name: "x", Type: "C62"})
		for range api.MaxCode - 1 {
			f.Code = append(f.Code, api.Instr{Op: api.ICall, A: 7, Class: "C62", Name: "m0_3", Args: []int{1, 7, 7, 7, 7, 7}, Dst: -1, Catch: -1})
		}
		f.Code = append(f.Code, api.Instr{Op: api.IReturn, A: -1, Catch: -1})
	}
	if r := checked(u); r != (result{}) {
		t.Error(r)
	}
	if s, e := Text(u); s != "" || e != api.ErrTooLong {
		t.Error(len(s), int(e))
	}
}

func TestCheckOfAUnitWithoutVariables(t *testing.T) { // P13.1
	u := read(t, tiny)
	for _, v := range []int{0, 1, -2, math.MinInt, math.MaxInt} {
		u.Funcs[0].Code[0].A = v
		if r := checked(u); r != (result{0, 0, api.ErrRange}) {
			t.Error(v, r)
		}
	}
}
