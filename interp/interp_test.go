package interp

import (
	"math"
	"reflect"
	"strconv"
	"strings"
	"testing"

	"dataflow/api"
	"dataflow/ir"
	"dataflow/lower"
	"dataflow/parse"
)

// unit returns the unit of a program.
func unit(t *testing.T, text string) api.Unit {
	t.Helper()
	src, _, e := parse.Program(text)
	if e != api.OK {
		t.Fatalf("%s: %d", text, int(e))
	}
	u, e := lower.Program(src)
	if e != api.OK {
		t.Fatalf("%s: %d", text, int(e))
	}
	return u
}

// read returns the unit of a text.
func read(t *testing.T, text string) api.Unit {
	t.Helper()
	u, line, e := ir.Parse(text)
	if e != api.OK {
		t.Fatalf("%s: %d in line %d", text, int(e), line)
	}
	return u
}

// run returns an execution of a unit.
func run(t *testing.T, u api.Unit, steps int, input ...int64) api.Exec {
	t.Helper()
	x, e := Run(u, input, steps)
	if e != api.OK {
		t.Fatal(int(e))
	}
	return x
}

const example = "class Main { static def main() { var x: int = input(); } }"

func number(n int64) api.Val { return api.Val{Kind: api.VInt, N: n} }

func TestExample(t *testing.T) { // P15.1
	want := api.Exec{End: api.EndReturn, Obs: []api.Obs{
		{Call: -1, Vals: []api.Val{{}, {}}},
		{Instr: 1, Call: -1, Vals: []api.Val{{}, number(7)}},
		{Instr: 2, Call: -1, Vals: []api.Val{number(7), number(7)}},
	}}
	u := unit(t, example)
	for steps := range 6 {
		expected := want
		if steps < 3 {
			expected = api.Exec{End: api.EndSteps, Obs: want.Obs[:steps]}
		}
		x := run(t, u, steps, 7, 8)
		if x.End != expected.End || len(x.Obs) != min(steps, 3) || steps > 0 && !reflect.DeepEqual(x, expected) {
			t.Errorf("%d steps: %v", steps, x)
		}
	}
}

// show returns the text of values.
func show(vals []api.Val) string {
	var words []string
	for _, v := range vals {
		n := strconv.FormatInt(v.N, 10)
		word := map[int]string{api.VUnset: "-", api.VInt: n, api.VNull: "null", api.VRef: n + "@" + strconv.Itoa(v.Site)}[v.Kind]
		if v.Kind != api.VRef && v.Site != 0 || (v.Kind == api.VUnset || v.Kind == api.VNull) && v.N != 0 {
			word = "wrong"
		}
		words = append(words, word)
	}
	return strings.Join(words, " ")
}

// steps returns a line for each step, with its function, instruction, frame and call, and the values.
func steps(x api.Exec) string {
	var text strings.Builder
	for _, o := range x.Obs {
		for _, n := range []int{o.Func, o.Instr, o.Frame, o.Call} {
			text.WriteString(strconv.Itoa(n) + " ")
		}
		text.WriteString(": " + show(o.Vals) + "\n")
	}
	return text.String()
}

// head has the functions A.m, A.s, B.m and Main.main, the variables of which are i, j, a, b, o. The instructions of main follow.
const head = `class A
field f int
field g A
method m virtual A int A
method s static int int A
class B A
method m virtual A int A
class Main
method main static -
func A m
var this A
var i int
var a A
-1 return 0
func A s
var i int
var a A
-1 return 0
func B m
var this B
var i int
var a A
-1 return 2
func Main main
var i int
var j int
var a A
var b B
var o null
`

const big = "9223372036854775807"

func TestInstructions(t *testing.T) { // P15.1
	// Each text of instructions, the values at the end, and how the execution ends.
	for _, c := range []struct {
		code, vals string
		end        int
	}{
		{"nop", "- - - - -", api.EndReturn},
		{"const 0 5; const 1 -5", "5 -5 - - -", api.EndReturn},
		{"null 2; null 4", "- - null - null", api.EndReturn},
		{"copy 0 1", "0 - - - -", api.EndReturn}, // of variables that are unset
		{"copy 2 3; copy 4 4", "- - null - null", api.EndReturn},
		{"copy 2 4", "- - null - -", api.EndReturn},
		{"new 3 B; copy 2 3", "- - 0@0 0@0 -", api.EndReturn},
		{"const 0 " + big + "; shift 1 0 1", big + " -9223372036854775808 - - -", api.EndReturn},
		{"shift 0 0 -3; shift 1 1 -9223372036854775808", "-3 -9223372036854775808 - - -", api.EndReturn},
		{"input 0; input 1", "7 -8 - - -", api.EndReturn},
		{"input 1; input 1; input 1; input 0; input 1", "0 0 - - -", api.EndReturn},
		{"const 0 5; bin 1 0 + 0", "5 10 - - -", api.EndReturn},
		{"const 0 5; bin 1 1 - 0", "5 -5 - - -", api.EndReturn},
		{"const 0 5; bin 1 0 - 1", "5 5 - - -", api.EndReturn},
		{"const 0 " + big + "; bin 1 0 * 0", big + " 1 - - -", api.EndReturn},
		{"const 0 5; bin 1 0 < 1; bin 0 1 < 0", "1 0 - - -", api.EndReturn},
		{"bin 0 0 == 1; bin 1 0 == 1", "1 0 - - -", api.EndReturn},
		{"bin 0 2 == 3; bin 1 2 == 4", "1 1 - - -", api.EndReturn}, // unset variables are null
		{"null 2; bin 0 2 == 3", "1 - null - -", api.EndReturn},
		{"new 2 A; bin 0 2 == 3; bin 1 4 == 2", "0 0 0@0 - -", api.EndReturn},
		{"new 2 A; new 3 B; bin 0 2 == 3; bin 1 2 == 2", "0 1 0@0 1@1 -", api.EndReturn},
		{"new 3 B; copy 2 3; bin 0 2 == 3", "1 - 0@0 0@0 -", api.EndReturn},
		{"new 2 A; load 0 2 f; load 2 2 g", "0 - null - -", api.EndReturn}, // fields are 0 or null at first
		{"new 3 B; const 0 4; store 3 f 0; load 1 3 f; store 3 g 3; load 2 3 g", "4 4 0@0 0@0 -", api.EndReturn},
		{"new 3 B; const 0 4; store 3 f 0; store 3 f 1; load 0 3 f; store 3 g 2; load 2 3 g", "0 - null 0@0 -", api.EndReturn},
		{"new 3 B; new 2 A; const 0 4; store 3 f 0; load 1 2 f; store 3 g 2", "4 0 1@1 0@0 -", api.EndReturn}, // of another object
		{"new 3 B; copy 2 3; const 0 4; store 2 f 0; load 1 3 f", "4 4 0@0 0@0 -", api.EndReturn},             // of the same object
		{"load 0 2 f", "- - - - -", api.EndNull},
		{"null 3; store 3 f 0", "- - - null -", api.EndNull},
		{"branch 0 2; const 0 1; const 1 1", "1 1 - - -", api.EndReturn},
		{"const 0 -1; branch 0 3; const 0 1; const 1 1", "-1 1 - - -", api.EndReturn},
		{"const 0 0; branch 0 3; const 0 1; const 1 1", "1 1 - - -", api.EndReturn},
		{"jump 2; const 0 1; const 1 1", "- 1 - - -", api.EndReturn},
		{"throw 2", "- - - - -", api.EndNull},
		{"null 4; throw 4", "- - - - null", api.EndNull},
		{"new 2 A; throw 2", "- - 0@0 - -", api.EndThrow},
		{"call -1 2 A m 0 3", "- - - - -", api.EndNull},
		{"static 0 A s 1 3", "0 - - - -", api.EndReturn}, // what was passed is not unset
		{"const 1 9; static 0 A s 1 3", "9 9 - - -", api.EndReturn},
		{"const 1 9; static -1 A s 1 3", "- 9 - - -", api.EndReturn},
		{"new 2 A; new 3 B; call 2 2 A m 0 3", "- - 0@0 1@1 -", api.EndReturn}, // A.m returns the receiver
		{"new 2 B; new 3 B; call 2 2 A m 0 3", "- - 1@1 1@1 -", api.EndReturn}, // B.m returns the argument
		{"new 3 B; call 2 3 B m 0 2", "- - null 0@0 -", api.EndReturn},
		{"new 3 B; copy 2 3; call -1 2 A m 0 2", "- - 0@0 0@0 -", api.EndReturn},
	} {
		var code strings.Builder
		for _, line := range strings.Split(c.code, "; ") {
			code.WriteString("-1 " + line + "\n")
		}
		u := read(t, head+code.String()+"-1 return -1\n")
		x := run(t, u, 100, 7, -8, 9)
		if last := x.Obs[len(x.Obs)-1]; x.End != c.end || show(last.Vals) != c.vals || last.Func != 3 {
			t.Errorf("%s: %d with %s", c.code, x.End, show(last.Vals))
		}
	}
}

func TestCallsAndFrames(t *testing.T) { // P15.1
	u := unit(t, `class A {
	static def add(a: int, b: int): int { var c: int = a; return A::one(c); }
	static def one(a: int): int { return a + 1; }
}
class Main { static def main() { var x: int; x = A::add(x, 2); A::one(5); } }`)
	want := `2 0 0 -1 : - - - -
2 1 0 -1 : - 2 - -
0 0 1 1 : 0 2 - - -
0 1 1 1 : 0 2 0 - -
1 0 2 3 : 0 - -
1 1 2 3 : 0 1 -
0 2 1 1 : 0 2 0 1 -
2 2 0 -1 : - 2 1 -
2 3 0 -1 : 1 2 1 -
2 4 0 -1 : 1 2 1 5
1 0 3 9 : 5 - -
1 1 3 9 : 5 6 -
2 5 0 -1 : 1 2 1 5
`
	// The variables of main are x, one for 2, the result of add, and 5; its last call assigns nothing.
	if x := run(t, u, 100); x.End != api.EndReturn || steps(x) != want {
		t.Errorf("%d\n%s", x.End, steps(x))
	}
}

func TestExceptions(t *testing.T) { // P15.1
	u := unit(t, `class A { static def f(): int { throw new B(); } }
class B extends A { }
class C extends A { }
class Main { static def main() {
	var x: int = 1;
	try {
		try {
			try { x = A::f(); } catch (c: C) { x = 2; }
			x = 3;
		} catch (b: A) { x = input(); throw b; }
	} catch (b: B) { x = 4; }
	throw new C();
} }`)
	// Function 0 is A.f. The variables of main are x, c, b and b, then a temporary for 1, the result of f, 2, 3, the input, 4 and the last object.
	want := `1 0 0 -1 : - - - - - - - - - - -
1 1 0 -1 : - - - - 1 - - - - - -
1 2 0 -1 : 1 - - - 1 - - - - - -
0 0 1 2 : - -
0 1 1 2 : 0@0 -
1 5 0 -1 : 1 - - - 1 - - - - - -
1 11 0 -1 : 1 - - - 1 - - - - - -
1 12 0 -1 : 1 - 0@0 - 1 - - - - - -
1 13 0 -1 : 1 - 0@0 - 1 - - - 7 - -
1 14 0 -1 : 7 - 0@0 - 1 - - - 7 - -
1 16 0 -1 : 7 - 0@0 - 1 - - - 7 - -
1 17 0 -1 : 7 - 0@0 0@0 1 - - - 7 - -
1 18 0 -1 : 7 - 0@0 0@0 1 - - - 7 4 -
1 19 0 -1 : 4 - 0@0 0@0 1 - - - 7 4 -
1 20 0 -1 : 4 - 0@0 0@0 1 - - - 7 4 1@1
`
	if x := run(t, u, 100, 7); x.End != api.EndThrow || steps(x) != want {
		t.Errorf("%d\n%s", x.End, steps(x))
	}
}

func TestExceptionsEndFrames(t *testing.T) { // P15.1
	// The exception leaves two frames. The handler of the call of A.f catches it, and not that of another call.
	u := unit(t, `class A { static def f() { A::g(); } static def g() { try { A::h(); } catch (e: Main) { } } static def h() { throw new A(); } }
class Main { static def main() {
	var x: int;
	try { x = 1; } catch (e: A) { x = 2; }
	try { A::f(); x = 3; } catch (e: A) { x = x + 4; }
	try { x = x + 8; } catch (e: A) { x = 5; }
} }`)
	x := run(t, u, 100)
	last := x.Obs[len(x.Obs)-1]
	if x.End != api.EndReturn || last.Frame != 0 || last.Vals[0] != number(13) {
		t.Errorf("%d\n%s", x.End, steps(x))
	}
	// In a handler that does not fit the exception goes on, and each handler that it comes to is a step.
	u = read(t, head+"3 new 2 A\n3 throw 2\n-1 return -1\n5 catch 3 B\n-1 return -1\n3 catch 2 A\n-1 return -1\n")
	if x := run(t, u, 100); x.End != api.EndReturn || len(x.Obs) != 5 || x.Obs[2].Instr != 3 || x.Obs[3].Instr != 5 || show(x.Obs[4].Vals) != "- - 0@0 - -" {
		t.Errorf("%d\n%s", x.End, steps(x))
	}
	// Two handlers that raise the exception to each other never end.
	u = read(t, head+"3 new 2 A\n3 throw 2\n-1 return -1\n5 catch 3 B\n-1 return -1\n3 catch 3 B\n-1 return -1\n")
	if x := run(t, u, 100); x.End != api.EndSteps || len(x.Obs) != 100 || x.Obs[98].Instr != 3 || x.Obs[99].Instr != 5 {
		t.Errorf("%d\n%s", x.End, steps(x))
	}
}

func TestSteps(t *testing.T) { // P15.1
	for text, length := range map[string]int{
		example:                                3,
		"class Main { static def main() { } }": 1,
		"class Main { static def main() { throw new Main(); } }":                                                           2,
		"class Main { def m() { } static def main() { var a: Main; a.m(); } }":                                             1,
		"class Main { static def main() { Main::main(); } }":                                                               api.MaxFrames,
		"class Main { static def f() { throw new Main(); } static def main() { try { Main::f(); } catch (e: Main) { } } }": 5,
	} {
		u := unit(t, text)
		whole := run(t, u, api.MaxSteps)
		if len(whole.Obs) != length || whole.End == api.EndSteps {
			t.Errorf("%s: %d with %d steps", text, whole.End, len(whole.Obs))
		}
		for steps := range length {
			// The end of the last step counts, although no step is left.
			if x := run(t, u, steps); x.End != api.EndSteps || len(x.Obs) != steps {
				t.Errorf("%s: %d with %d of %d steps", text, x.End, len(x.Obs), steps)
			}
		}
		if x := run(t, u, length); !reflect.DeepEqual(x, whole) {
			t.Errorf("%s: %d with %d steps", text, x.End, len(x.Obs))
		}
	}
	u := unit(t, "class Main { static def main() { while (1) { } } }")
	for _, steps := range []int{0, 1, 4999, api.MaxSteps} {
		if x := run(t, u, steps); x.End != api.EndSteps || len(x.Obs) != steps {
			t.Errorf("%d with %d of %d steps", x.End, len(x.Obs), steps)
		}
	}
}

func TestFrames(t *testing.T) { // P15.1
	// With the frame of main there are n + 2 frames at once.
	u := unit(t, `class A { def m(n: int): int { var a: A; if (n < 1) { a = this; } if (n < 0) { return a.m(n); } if (n) { return this.m(n - 1) + 1; } return 0; } }
class Main { static def main() { var a: A = new A(); var x: int = a.m(input()); x = a.m(3); } }`)
	for _, n := range []int64{0, 1, api.MaxFrames - 3, api.MaxFrames - 2, api.MaxFrames - 1} {
		x := run(t, u, api.MaxSteps, n)
		last := x.Obs[len(x.Obs)-1]
		if n+2 > api.MaxFrames {
			if x.End != api.EndFrames || last.Frame != api.MaxFrames-1 {
				t.Errorf("%d: %d with %d frames", n, x.End, last.Frame)
			}
			continue
		}
		frames := 0
		for _, o := range x.Obs {
			frames = max(frames, o.Frame+1)
		}
		if x.End != api.EndReturn || last.Vals[1] != number(3) || frames != 1+int(n+1)+4 {
			t.Errorf("%d: %d with %d frames and %v", n, x.End, frames, last.Vals)
		}
	}
	// Frames that have ended do not count, with or without an exception.
	u = unit(t, `class A { static def m(n: int) { if (n == n) { throw new A(); } } static def o() { } }
class Main { static def main() { var n: int; while (n < 200) { try { A::o(); A::m(n); } catch (a: A) { } n = n + 1; } } }`)
	x := run(t, u, api.MaxSteps)
	if last := x.Obs[len(x.Obs)-1]; x.End != api.EndReturn || last.Vals[0] != number(200) || last.Frame != 0 {
		t.Error(x.End, last)
	}
	for _, c := range []struct {
		code string
		end  int
	}{
		// Null counts before the frames, which count for both kinds of calls.
		{"new Main().down(n - 1);", api.EndFrames},
		{"Main::to(n - 1);", api.EndFrames},
		{"var a: Main; if (n == 3) { a.down(n); } new Main().down(n - 1);", api.EndNull},
		{"var a: Main; if (n == 2) { a.down(n); } new Main().down(n - 1);", api.EndFrames},
		{"var a: Main; if (n == 3) { throw a; } new Main().down(n - 1);", api.EndNull},
	} {
		// When n is 3, there are as many frames as may exist.
		u := unit(t, "class Main { def down(n: int) { "+c.code+" } static def to(n: int) { "+c.code+" } static def main() { new Main().down(65); } }")
		if x := run(t, u, api.MaxSteps); x.End != c.end || x.Obs[len(x.Obs)-1].Frame != api.MaxFrames-1 {
			t.Errorf("%s: %d in frame %d", c.code, x.End, x.Obs[len(x.Obs)-1].Frame)
		}
	}
}

func TestRunErrors(t *testing.T) { // P15.1
	valid := unit(t, example)
	invalid := unit(t, example)
	invalid.Funcs[0].Code[0].Dst = 9
	long := make([]int64, api.MaxInput+1)
	for _, c := range []struct {
		u     api.Unit
		input []int64
		steps int
		e     api.Errno
	}{
		{valid, nil, 0, api.OK},
		{valid, long[1:], api.MaxSteps, api.OK},
		{valid, nil, -1, api.ErrRange},
		{valid, nil, api.MaxSteps + 1, api.ErrRange},
		{valid, nil, math.MinInt, api.ErrRange},
		{valid, nil, math.MaxInt, api.ErrRange},
		{valid, long, 1, api.ErrTooLong},
		{valid, long, -1, api.ErrTooLong},
		{invalid, nil, 1, api.ErrRange},
		{invalid, long, -1, api.ErrRange},
		{api.Unit{}, nil, 1, api.ErrMain},
		{api.Unit{}, long, -1, api.ErrMain},
		{api.Unit{Hier: api.Hier{Classes: []api.ClassDecl{{Name: "class"}}}}, nil, 1, api.ErrName},
	} {
		x, e := Run(c.u, c.input, c.steps)
		if e != c.e || e != api.OK && (x.End != 0 || len(x.Obs) != 0) {
			t.Errorf("%d numbers, %d steps: %d, not %d", len(c.input), c.steps, int(e), int(c.e))
		}
	}
	// As many numbers as an input may have are read.
	u := unit(t, "class Main { static def main() { var x: int; while (input()) { x = x + 1; } } }")
	for k := range long {
		long[k] = int64(k) - api.MaxInput
	}
	if x := run(t, u, api.MaxSteps, long[:api.MaxInput]...); x.End != api.EndSteps || x.Obs[len(x.Obs)-1].Vals[0].N < 700 {
		t.Error(x.End, x.Obs[len(x.Obs)-1])
	}
	if x := run(t, u, api.MaxSteps, long[:900]...); x.End != api.EndReturn || x.Obs[len(x.Obs)-1].Vals[0].N != 900 {
		t.Error(x.End, x.Obs[len(x.Obs)-1])
	}
}

func TestBin(t *testing.T) { // P15.2
	for _, c := range []struct {
		op           int
		a, b, result int64
	}{
		{api.OpMul, 1 << 62, 2, math.MinInt64}, // the example
		{api.OpAdd, 2, 3, 5}, {api.OpAdd, math.MaxInt64, 1, math.MinInt64}, {api.OpAdd, math.MinInt64, math.MinInt64, 0}, {api.OpAdd, math.MinInt64, math.MaxInt64, -1},
		{api.OpSub, 2, 3, -1}, {api.OpSub, math.MinInt64, 1, math.MaxInt64}, {api.OpSub, 0, math.MinInt64, math.MinInt64}, {api.OpSub, -1, math.MinInt64, math.MaxInt64},
		{api.OpMul, -2, 3, -6}, {api.OpMul, math.MinInt64, -1, math.MinInt64}, {api.OpMul, math.MaxInt64, math.MaxInt64, 1}, {api.OpMul, 1 << 32, 1 << 32, 0},
		{api.OpLess, 2, 3, 1}, {api.OpLess, 3, 2, 0}, {api.OpLess, 2, 2, 0}, {api.OpLess, math.MinInt64, math.MaxInt64, 1}, {api.OpLess, math.MaxInt64, math.MinInt64, 0}, {api.OpLess, -1, 0, 1},
		{api.OpEqual, 2, 2, 1}, {api.OpEqual, 2, 3, 0}, {api.OpEqual, math.MinInt64, math.MaxInt64, 0}, {api.OpEqual, math.MinInt64, math.MinInt64, 1}, {api.OpEqual, 0, -1, 0},
	} {
		if n, e := Bin(c.op, c.a, c.b); n != c.result || e != api.OK {
			t.Errorf("operator %d of %d and %d: %d, %d", c.op, c.a, c.b, n, int(e))
		}
	}
	for _, op := range []int{math.MinInt, -1, 0, 6, 7, 1<<32 + 1, math.MaxInt} {
		for _, a := range []int64{0, 1, math.MaxInt64} {
			if n, e := Bin(op, a, a); n != 0 || e != api.ErrKind {
				t.Errorf("operator %d: %d, %d", op, n, int(e))
			}
		}
	}
}
