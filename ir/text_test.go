package ir

import (
	"reflect"
	"slices"
	"strconv"
	"strings"
	"testing"

	"dataflow/api"
)

// everything has all forms of lines.
const everything = `class A
field f int
field g A
method m virtual A int A
method n static -
class B A
class Main
method main static -
method s static int
func A m
var this A
var a int
var b A
var $0 null
var $1 int
var i int
6 nop
-1 const 1 -9223372036854775808
-1 null 3
-1 copy 2 3
-1 jump 8
-1 nop
-1 jump 8
-1 catch 2 B
-1 bin 4 1 + 5
-1 bin 4 1 - 5
-1 bin 4 1 * 5
-1 bin 4 1 < 5
-1 bin 4 2 == 3
-1 input 4
7 new 2 B
-1 load 2 0 g
-1 store 0 g 3
7 call -1 0 A m 1 2
7 call 2 0 A m 4 3
-1 static 4 Main s
-1 static -1 A n
-1 branch 4 8
-1 shift 4 1 9223372036854775807
-1 throw 3
-1 return 0
func A n
-1 return -1
func Main main
-1 return -1
func Main s
var $0 int
-1 return 0
`

func TestTextOfAllForms(t *testing.T) { // P13.2
	s := strings.Replace(everything, "\n6 nop\n", "\n7 nop\n", 1)
	u := read(t, s)
	if again, e := Text(u); again != s || e != api.OK {
		t.Errorf("%d: %s", int(e), again)
	}
	f := u.Funcs[0]
	if f.Static || f.Params != 3 || f.Result != "A" || u.Main != 2 || !u.Funcs[3].Static || u.Funcs[3].Params != 0 || u.Funcs[3].Result != "int" {
		t.Error(f, u.Main, u.Funcs[3])
	}
	if c := u.Hier.Classes[0]; !reflect.DeepEqual(c.Methods[0], api.Sig{Name: "m", Params: []string{"int", "A"}, Result: "A"}) || !c.Methods[1].Static || c.Methods[1].Result != "" || u.Hier.Classes[1].Super != "A" {
		t.Error(c)
	}
	for k, want := range map[int]api.Instr{
		0:  {Op: api.INop, Catch: 7},
		1:  {Op: api.IConst, Dst: 1, N: -1 << 63, Catch: -1},
		8:  {Op: api.IBin, Dst: 4, A: 1, B: 5, N: api.OpAdd, Catch: -1},
		12: {Op: api.IBin, Dst: 4, A: 2, B: 3, N: api.OpEqual, Catch: -1},
		16: {Op: api.IStore, A: 0, B: 3, Name: "g", Catch: -1},
		17: {Op: api.ICall, Dst: -1, A: 0, Class: "A", Name: "m", Args: []int{1, 2}, Catch: 7},
		19: {Op: api.IStatic, Dst: 4, Class: "Main", Name: "s", Catch: -1},
		22: {Op: api.IShift, Dst: 4, A: 1, N: 1<<63 - 1, Catch: -1},
	} {
		if !reflect.DeepEqual(f.Code[k], want) {
			t.Errorf("%d: %v, not %v", k, f.Code[k], want)
		}
	}
	if _, line, e := Parse(everything); line != 0 || e != api.ErrRange { // handler 6 is no ICatch
		t.Error(line, int(e))
	}
}

func TestTextLikeTheModel(t *testing.T) { // P13.2, P13.5
	for seed := range uint(300) {
		u := sample(seed, 1+int(seed%3))
		before := copied(u)
		s, e := Text(u)
		if want := modelText(u); len(want) > api.MaxText {
			if s != "" || e != api.ErrTooLong {
				t.Fatalf("seed %d: %d", seed, int(e))
			}
			continue
		} else if s != want || e != api.OK {
			t.Fatalf("seed %d: %d: %s", seed, int(e), s)
		}
		again, line, e := Parse(s)
		if e != api.OK || line != 0 || !Same(u, again) || !Same(u, before) {
			t.Fatalf("seed %d: %d in line %d", seed, int(e), line)
		}
	}
}

func TestTextOfInvalidUnits(t *testing.T) { // P13.2
	c := &chance{7}
	errors := map[api.Errno]int{}
	for seed := range uint(60) {
		whole := sample(seed, 1)
		for range 20 {
			u := varied(c, whole)
			_, _, want := Check(u)
			s, e := Text(u)
			if e != want || (e == api.OK) != (s != "") {
				t.Fatalf("seed %d: %d, not %d", seed, int(e), int(want))
			}
			errors[e]++
		}
	}
	for _, e := range []api.Errno{api.OK, api.ErrMain, api.ErrMismatch, api.ErrRange, api.ErrType} {
		if errors[e] == 0 {
			t.Errorf("the error %d does not occur", int(e))
		}
	}
}

// changed returns a text with a change.
func changed(c *chance, s string) string {
	lines := strings.SplitAfter(s, "\n")
	lines = lines[:len(lines)-1]
	k, n := c.upTo(len(lines)), c.upTo(len(lines))
	words := strings.Split(strings.TrimSuffix(lines[k], "\n"), " ")
	w := c.upTo(len(words))
	pool := []string{"", " ", "-", "-1", "0", "00", "+1", "-0", "1", "2", "x", "A", "Main", "main", "m", "int", "null", "static", "virtual", "class", "field", "method", "func", "var", "nop", "const", "jump", "return", "call", "==", "=", "\t", "\r", "\n", "\xff", "9223372036854775807", "9223372036854775808", "-9223372036854775808", "-9223372036854775809"}
	switch c.upTo(10) {
	case 0:
		lines = slices.Delete(lines, k, k+1)
	case 1:
		lines = slices.Insert(lines, k, lines[n])
	case 2:
		lines[k], lines[n] = lines[n], lines[k]
	case 3:
		words = slices.Delete(words, w, w+1)
		lines[k] = strings.Join(words, " ") + "\n"
	case 4, 5:
		words[w] = some(c, pool...)
		lines[k] = strings.Join(words, " ") + "\n"
	case 6:
		words = slices.Insert(words, w+c.upTo(2), some(c, pool...))
		lines[k] = strings.Join(words, " ") + "\n"
	case 7:
		whole := strings.Join(lines, "")
		return whole[:c.upTo(len(whole)+1)]
	case 8:
		at := c.upTo(len(lines[k]))
		lines[k] = lines[k][:at] + some(c, pool...) + lines[k][at:]
	case 9:
		lines[k], lines[n] = lines[n], lines[k]
		lines = slices.Insert(lines, k, some(c, "class X\n", "class Main\n", "field f int\n", "method m static -\n", "func Main main\n", "func X x\n", "var x int\n", "-1 nop\n", "\n", " \n"))
	}
	return strings.Join(lines, "")
}

func TestParseLikeTheModel(t *testing.T) { // P13.2, P13.5
	c := &chance{3}
	forms := lineForms()
	texts := []string{strings.Replace(everything, "\n6 nop\n", "\n7 nop\n", 1), tiny}
	for seed := range uint(30) {
		if s, e := Text(sample(seed, 1)); e == api.OK && len(s) < 3000 {
			texts = append(texts, s)
		}
	}
	errors := map[api.Errno]int{}
	for k := range 6000 {
		s := changed(c, texts[k%len(texts)])
		if c.upTo(4) == 0 && strings.Contains(s, "\n") {
			s = changed(c, s)
		}
		want, wantLine, wantError := modelParse(s, forms)
		u, line, e := Parse(s)
		if e != wantError || line != wantLine || !Same(u, want) {
			t.Fatalf("%q: %d in line %d, not %d in line %d", s, int(e), line, int(wantError), wantLine)
		}
		if e != api.OK && !reflect.DeepEqual(u, api.Unit{}) {
			t.Fatalf("%q: %v", s, u)
		}
		if again, f := Text(u); e == api.OK && (again != s || f != api.OK) {
			t.Fatalf("%q: %d: %q", s, int(f), again)
		}
		errors[e]++
	}
	for _, e := range []api.Errno{api.OK, api.ErrSyntax, api.ErrName, api.ErrUnknown, api.ErrExists, api.ErrMain, api.ErrMismatch, api.ErrRange, api.ErrType, api.ErrArity, api.ErrInvalid} {
		if errors[e] < 5 {
			t.Errorf("the error %d occurs %d times", int(e), errors[e])
		}
	}
}

func TestParseOfLines(t *testing.T) { // P13.2
	type place struct {
		line int
		e    api.Errno
	}
	for s, want := range map[string]place{
		"":                                          {0, api.ErrMain},
		"\n":                                        {1, api.ErrSyntax},
		"x":                                         {1, api.ErrSyntax},
		tiny:                                        {},
		tiny[:len(tiny)-1]:                          {4, api.ErrSyntax},
		tiny + "\n":                                 {5, api.ErrSyntax},
		" " + tiny:                                  {1, api.ErrSyntax},
		"class \n" + tiny:                           {1, api.ErrSyntax},
		"class\n" + tiny:                            {1, api.ErrSyntax},
		"class A B C\n" + tiny:                      {1, api.ErrSyntax},
		"class A B\n" + tiny:                        {0, api.ErrUnknown},
		"class A\r\n" + tiny:                        {0, api.ErrName},
		"class -\n" + tiny:                          {0, api.ErrName},
		"class \xff\n" + tiny:                       {0, api.ErrName},
		"class A -\n" + tiny:                        {0, api.ErrUnknown},
		"class class\n" + tiny:                      {0, api.ErrName},
		"Class A\n" + tiny:                          {1, api.ErrSyntax},
		"field f int\n" + tiny:                      {1, api.ErrSyntax},
		"method m static -\n" + tiny:                {1, api.ErrSyntax},
		"var x int\n" + tiny:                        {1, api.ErrSyntax},
		"-1 nop\n" + tiny:                           {1, api.ErrSyntax},
		"func A m\n" + tiny:                         {2, api.ErrSyntax},
		"func A m\n":                                {0, api.ErrMismatch},
		"class A\nfield f\n" + tiny:                 {2, api.ErrSyntax},
		"class A\nfield f int int\n" + tiny:         {2, api.ErrSyntax},
		"class A\nfield f int\nfield f int\n":       {0, api.ErrExists},
		"class A\nmethod m static -\nfield f\n":     {3, api.ErrSyntax},
		"class A\nmethod m static\n":                {2, api.ErrSyntax},
		"class A\nmethod m Static -\n":              {2, api.ErrSyntax},
		"class A\nmethod m static - int  int\n":     {2, api.ErrSyntax},
		"class A\nmethod m static - int \n":         {2, api.ErrSyntax},
		"class A\nmethod m static - -\n":            {0, api.ErrType},
		tiny + "class A\n":                          {5, api.ErrSyntax},
		tiny + "field f int\n":                      {5, api.ErrSyntax},
		tiny + "method m static -\n":                {5, api.ErrSyntax},
		tiny + "var x int\n":                        {5, api.ErrSyntax},
		tiny + "func A\n":                           {5, api.ErrSyntax},
		tiny + "func A m x\n":                       {5, api.ErrSyntax},
		tiny + "func A m\nvar x\n":                  {6, api.ErrSyntax},
		tiny + "func A m\nvar x int int\n":          {6, api.ErrSyntax},
		tiny + "func A m\nvar x int\nfunc A m\n":    {0, api.ErrMismatch},
		tiny + "1\n":                                {5, api.ErrSyntax},
		tiny + "nop\n":                              {5, api.ErrSyntax},
		tiny + "-1 Nop\n":                           {5, api.ErrSyntax},
		tiny + "01 nop\n":                           {5, api.ErrSyntax},
		tiny + "-0 nop\n":                           {5, api.ErrSyntax},
		tiny + "+1 nop\n":                           {5, api.ErrSyntax},
		tiny + "1_0 nop\n":                          {5, api.ErrSyntax},
		tiny + "0x1 nop\n":                          {5, api.ErrSyntax},
		tiny + "9223372036854775808 nop\n":          {5, api.ErrSyntax},
		tiny + "9223372036854775807 nop\n":          {0, api.ErrRange},
		tiny + "-1 nop 0\n":                         {5, api.ErrSyntax},
		tiny + "-1 return\n":                        {5, api.ErrSyntax},
		tiny + "-1 return x\n":                      {5, api.ErrSyntax},
		tiny + "-1 return 0 0\n":                    {5, api.ErrSyntax},
		tiny + "-1 bin 0 0 / 0\n":                   {5, api.ErrSyntax},
		tiny + "-1 bin 0 0 1 0\n":                   {5, api.ErrSyntax},
		tiny + "-1 bin 0 0 + +\n":                   {5, api.ErrSyntax},
		tiny + "-1 const 0 1.0\n":                   {5, api.ErrSyntax},
		tiny + "-1 shift 0 0 9223372036854775808\n": {5, api.ErrSyntax},
		tiny + "-1 call 0 0 A\n":                    {5, api.ErrSyntax},
		tiny + "-1 call 0 0 A m 0 x\n":              {5, api.ErrSyntax},
		tiny + "-1 call 0 0 A m 0 0 0 0 0 0 0\n":    {0, api.ErrRange},
		tiny + "-1 static 0 A\n":                    {5, api.ErrSyntax},
		tiny + "-1 static -1 A m x\n":               {5, api.ErrSyntax},
		tiny + "-1 static -1 A m\n-1 return -1\n":   {0, api.ErrUnknown},
		tiny + "x\ny\n":                             {5, api.ErrSyntax},
		tiny + "-1 return -1\nx":                    {6, api.ErrSyntax},
		tiny + "-1 return -1\n-1 nop":               {6, api.ErrSyntax},
	} {
		u, line, e := Parse(s)
		if (place{line, e}) != want || e != api.OK && !reflect.DeepEqual(u, api.Unit{}) {
			t.Errorf("%q: %d in line %d, not %d in line %d", s, int(e), line, int(want.e), want.line)
		}
	}
}

func TestParseOfFunctionsWithoutMethods(t *testing.T) { // P13.2
	// The functions of a text get their heads from the hierarchy, or from nothing.
	for s, want := range map[string]api.Errno{
		"class Main\nmethod main static -\nfunc Main x\n-1 return -1\n":                                                     api.ErrMain,
		"class Main\nmethod main static -\nmethod x static -\nfunc Main main\n-1 return -1\nfunc Main main\n-1 return -1\n": api.ErrMismatch,
		"class Main\nmethod main static -\nmethod x static -\nfunc Main x\n-1 return -1\nfunc Main main\n-1 return -1\n":    api.ErrMismatch,
		"class Main\nmethod x static -\nmethod main static -\nfunc Main x\n-1 return -1\nfunc Main main\n-1 return -1\n":    api.OK,
		"class Main\nmethod main virtual -\nfunc Main main\n-1 return -1\n":                                                 api.ErrMain,
		"class Main\nmethod main static int\nfunc Main main\n-1 return -1\n":                                                api.ErrMain,
		"class Main\nmethod main static - int\nfunc Main main\n-1 return -1\n":                                              api.ErrMain,
		"class A\nmethod main static -\nfunc A main\n-1 return -1\n":                                                        api.ErrMain,
		"class Main\nmethod main static -\nclass A Main\nfunc Main main\n-1 return -1\n":                                    api.OK,
	} {
		if _, line, e := Parse(s); line != 0 || e != want {
			t.Errorf("%q: %d in line %d", s, int(e), line)
		}
	}
}

// long returns a unit whose text has this many bytes.
func long(t *testing.T, size int) api.Unit {
	t.Helper()
	u := many(t, 3, "-1 return -1\n")
	length := len(modelText(u))
	for k := range u.Funcs {
		f := &u.Funcs[k]
		f.Vars = []api.Field{{Name: "x", Type: "int"}}
		length += len("var x int\n")
		for len(f.Code) < api.MaxCode && length+64 < size {
			f.Code = slices.Insert(f.Code, 0, api.Instr{Op: api.IConst, N: 1 << 60, Catch: -1})
			length += len("-1 const 0 " + strconv.Itoa(1<<60) + "\n")
		}
	}
	// Each variable more is a line of ten bytes, and the last one has a longer name.
	f := &u.Funcs[3]
	for size-length >= 20 {
		f.Vars = append(f.Vars, api.Field{Name: "y", Type: "int"})
		length += len("var y int\n")
	}
	f.Vars[0].Name += strings.Repeat("x", size-length)
	return u
}

func TestTextLimit(t *testing.T) { // P13.2
	u := long(t, api.MaxText)
	s, e := Text(u)
	if len(s) != api.MaxText || e != api.OK {
		t.Fatal(len(s), int(e))
	}
	if again, line, e := Parse(s); line != 0 || e != api.OK || !Same(again, u) {
		t.Error(line, int(e))
	}
	if again, line, e := Parse(s + "x"); line != 0 || e != api.ErrTooLong || len(again.Funcs) != 0 {
		t.Error(line, int(e))
	}
	if _, line, e := Parse(strings.Repeat(" ", api.MaxText)); line != 1 || e != api.ErrSyntax {
		t.Error(line, int(e))
	}
	if _, line, e := Parse(strings.Repeat("\n", api.MaxText+1)); line != 0 || e != api.ErrTooLong {
		t.Error(line, int(e))
	}
	u = long(t, api.MaxText+1)
	if s, e := Text(u); s != "" || e != api.ErrTooLong {
		t.Error(len(s), int(e))
	}
	u.Funcs[3].Vars[0].Type = "X"
	if s, e := Text(u); s != "" || e != api.ErrType {
		t.Error(len(s), int(e))
	}
}

func TestParseOfLargeTexts(t *testing.T) { // R1
	for _, s := range []string{
		strings.Repeat("class A\n", api.MaxText/8),
		"class A\n" + strings.Repeat("method m static -\n", 1800) + strings.Repeat("func A m\n", 3600),
		"func A m\n-1 call 0 0 A m" + strings.Repeat(" 0", 32000) + "\n",
	} {
		if _, line, e := Parse(s); line != 0 || e == api.OK || e == api.ErrSyntax {
			t.Errorf("%d in line %d", int(e), line)
		}
	}
}
