package interp

import (
	"reflect"
	"slices"
	"strings"
	"testing"

	"dataflow/api"
	"dataflow/hier"
	"dataflow/ir"
	"dataflow/lower"
	"dataflow/samples"
	"dataflow/units"
)

// chance gives numbers that look random.
type chance struct{ seed uint }

// upTo returns some number from 0 to n-1.
func (c *chance) upTo(n int) int {
	c.seed = c.seed*6364136223846793005 + 1442695040888963407
	return int(c.seed >> 33 % uint(n))
}

func some[T any](c *chance, list ...T) T { return list[c.upTo(len(list))] }

// input returns numbers, half of which are 0.
func (c *chance) input() []int64 {
	var list []int64
	for range c.upTo(40) {
		list = append(list, int64(max(c.upTo(8)-4, 0)))
	}
	return list
}

// unitsFor returns units of two programs, one of which has many exceptions, and one that is of none.
func unitsFor(seed uint) []api.Unit {
	list := []api.Unit{units.Unit(seed)}
	for _, src := range []api.Source{samples.Program(seed, 1+int(seed%8)), samples.Throwing(seed, 1+int(seed%4))} {
		u, e := lower.Program(src)
		if e != api.OK {
			panic("a sample cannot be lowered")
		}
		list = append(list, u)
	}
	return list
}

// sameExec reports whether two executions are equal.
func sameExec(a, b api.Exec) bool {
	return a.End == b.End && slices.EqualFunc(a.Obs, b.Obs, func(a, b api.Obs) bool {
		same := slices.Equal(a.Vals, b.Vals)
		a.Vals, b.Vals = nil, nil
		return same && reflect.DeepEqual(a, b)
	})
}

func TestRunLikeTheModel(t *testing.T) { // P15.1
	ends, operations, frames := map[int]int{}, map[int]int{}, 0
	for seed := range uint(500) {
		c := &chance{seed}
		for _, u := range unitsFor(seed) {
			for range 4 {
				input, steps := c.input(), c.upTo(700)
				x := run(t, u, steps, input...)
				if want := modelRun(u, input, steps); !sameExec(x, want) {
					t.Fatalf("seed %d, input %v, %d steps: %d, not %d\n%s", seed, input, steps, x.End, want.End, stepsApart(x, want))
				}
				ends[x.End]++
				for _, o := range x.Obs {
					operations[u.Funcs[o.Func].Code[o.Instr].Op]++
					frames = max(frames, o.Frame)
				}
			}
		}
	}
	for end := api.EndReturn; end <= api.EndFrames; end++ {
		if ends[end] < 50 {
			t.Errorf("%d executions end with %d", ends[end], end)
		}
	}
	for op := api.INop; op <= api.IShift; op++ {
		if operations[op] < 1000 {
			t.Errorf("operation %d is executed %d times", op, operations[op])
		}
	}
	if frames < api.MaxFrames {
		t.Errorf("there are %d frames", frames)
	}
}

// stepsApart returns the first steps of two executions that differ.
func stepsApart(a, b api.Exec) string {
	for k := range min(len(a.Obs), len(b.Obs)) {
		x, y := api.Exec{Obs: a.Obs[k : k+1]}, api.Exec{Obs: b.Obs[k : k+1]}
		if !sameExec(x, y) {
			return steps(x) + steps(y)
		}
	}
	return ""
}

func TestMoreSteps(t *testing.T) { // P15.5
	for seed := range uint(40) {
		c := &chance{seed}
		for _, u := range unitsFor(seed) {
			input := c.input()
			whole := run(t, u, 150, input...)
			for steps := range 150 {
				want := whole
				if steps < len(whole.Obs) {
					want = api.Exec{End: api.EndSteps, Obs: whole.Obs[:steps]}
				}
				if x := run(t, u, steps, input...); !sameExec(x, want) {
					t.Fatalf("seed %d: %d with %d of %d steps", seed, x.End, steps, len(whole.Obs))
				}
			}
			if whole.End != api.EndSteps {
				if x := run(t, u, api.MaxSteps, input...); !sameExec(x, whole) {
					t.Fatalf("seed %d: %d with more steps", seed, x.End)
				}
			}
		}
	}
}

func TestTypes(t *testing.T) { // P15.6
	counts := map[int]int{}
	for seed := range uint(300) {
		c := &chance{seed}
		for _, u := range unitsFor(seed) {
			var classes []string // of the sites
			for _, f := range u.Funcs {
				for _, i := range f.Code {
					if i.Op == api.INew {
						classes = append(classes, i.Class)
					}
				}
			}
			sites := map[int64]int{} // of the objects
			for _, o := range run(t, u, 1000, c.input()...).Obs {
				for v, value := range o.Vals {
					typ := u.Funcs[o.Func].Vars[v].Type
					counts[value.Kind]++
					ok := value == api.Val{}
					switch value.Kind {
					case api.VInt:
						ok = typ == "int" && value.Site == 0
					case api.VNull:
						ok = typ != "int" && value == api.Val{Kind: api.VNull}
					case api.VRef:
						site, seen := sites[value.N]
						sites[value.N] = value.Site
						ok = hier.IsSub(u.Hier, classes[value.Site], typ) && (!seen || site == value.Site)
					}
					if !ok {
						t.Fatalf("seed %d: the variable %d of the type %s has %v", seed, v, typ, value)
					}
				}
			}
		}
	}
	for kind := api.VUnset; kind <= api.VRef; kind++ {
		if counts[kind] < 1000 {
			t.Errorf("kind %d occurs %d times", kind, counts[kind])
		}
	}
}

func TestDispatch(t *testing.T) { // P15.3
	u := unit(t, `class B extends A { def n() { } } class A { static def s() { } def m() { } } class C extends B { def m() { } }
class Main { static def main() { } }`)
	for _, c := range []struct {
		class, method string
		want          int
	}{
		{"B", "m", 2}, // the example
		{"A", "m", 2}, {"C", "m", 3}, {"B", "n", 0}, {"C", "n", 0}, {"A", "n", -1},
		{"A", "s", -1}, {"B", "s", -1}, {"Main", "main", -1}, {"Main", "m", -1}, {"X", "m", -1}, {"", "m", -1}, {"A", "", -1}, {"", "", -1},
	} {
		if got := Dispatch(u, c.class, c.method); got != c.want {
			t.Errorf("%s.%s: %d, not %d", c.class, c.method, got, c.want)
		}
	}
	if got := Dispatch(api.Unit{}, "Main", "main"); got != -1 {
		t.Error(got)
	}
}

// modelDispatch follows the superclasses of a class in any unit.
func modelDispatch(u api.Unit, class, method string) int {
	var visited []string
	for !slices.Contains(visited, class) {
		visited = append(visited, class)
		k := slices.IndexFunc(u.Hier.Classes, func(c api.ClassDecl) bool { return c.Name == class })
		if k < 0 {
			return -1
		}
		for _, s := range u.Hier.Classes[k].Methods {
			if s.Name == method && s.Static {
				return -1
			}
			if s.Name == method {
				return slices.IndexFunc(u.Funcs, func(f api.Func) bool { return f.Class == class && f.Name == method })
			}
		}
		if u.Hier.Classes[k].Super == "" {
			return -1
		}
		class = u.Hier.Classes[k].Super
	}
	return -1
}

func TestDispatchInAnyUnit(t *testing.T) { // P15.3
	c := &chance{3}
	found := map[bool]int{}
	name := func() string { return some(c, "A", "B", "C", "A", "B", "C", "D", "") }
	method := func() string { return some(c, "m", "n", "m", "n", "") }
	for range 20000 {
		var u api.Unit
		for range c.upTo(5) {
			d := api.ClassDecl{Name: name(), Super: name()}
			for range c.upTo(4) {
				d.Methods = append(d.Methods, api.Sig{Name: method(), Static: c.upTo(4) == 0})
			}
			u.Hier.Classes = append(u.Hier.Classes, d)
		}
		for range c.upTo(12) {
			u.Funcs = append(u.Funcs, api.Func{Class: name(), Name: method(), Static: c.upTo(4) == 0})
		}
		for _, class := range []string{"A", "B", "C", "D", "", "E"} {
			for _, m := range []string{"m", "n", "", "x"} {
				got, want := Dispatch(u, class, m), modelDispatch(u, class, m)
				if got != want {
					t.Fatalf("%v: %s.%s: %d, not %d", u, class, m, got, want)
				}
				found[got >= 0]++
			}
		}
	}
	if found[true] < 10000 || found[false] < 10000 {
		t.Error(found)
	}
}

// leaves calls a function for each number in a value, which it may change.
func leaves(v reflect.Value, each func(v reflect.Value)) {
	switch v.Kind() {
	case reflect.Struct:
		for k := range v.NumField() {
			leaves(v.Field(k), each)
		}
	case reflect.Slice:
		for k := range v.Len() {
			leaves(v.Index(k), each)
		}
	default:
		each(v)
	}
}

func TestCheckExample(t *testing.T) { // P15.4
	u := unit(t, example)
	x := run(t, u, 100, 7)
	if !Check(u, []int64{7}, x) || !Check(u, []int64{7, 8}, x) || Check(u, []int64{8}, x) || Check(u, nil, x) {
		t.Error("another input does not count")
	}
	// Every number counts, and every list.
	leaves(reflect.ValueOf(&x).Elem(), func(v reflect.Value) {
		for _, d := range []int64{1, -1, 1 << 40} {
			v.SetInt(v.Int() + d)
			if Check(u, []int64{7}, x) {
				t.Errorf("%v is an execution", x)
			}
			v.SetInt(v.Int() - d)
		}
	})
	for k := range x.Obs {
		vals := x.Obs[k].Vals
		for _, other := range [][]api.Val{vals[:1], append(slices.Clone(vals), api.Val{}), nil} {
			if x.Obs[k].Vals = other; Check(u, []int64{7}, x) {
				t.Errorf("%v is an execution", x)
			}
		}
		x.Obs[k].Vals = vals
	}
	if !Check(u, []int64{7}, x) {
		t.Error(x)
	}
	for k := range x.Obs {
		for end := -1; end <= 6; end++ {
			y := api.Exec{End: end, Obs: x.Obs[:k]}
			if Check(u, []int64{7}, y) != (end == api.EndSteps) {
				t.Errorf("%d with %d steps", end, k)
			}
		}
	}
	if y := (api.Exec{End: x.End, Obs: append(slices.Clone(x.Obs), x.Obs[2])}); Check(u, []int64{7}, y) {
		t.Error(y)
	}
}

func TestCheckLists(t *testing.T) { // P15.4
	// Lists that are empty may be nil or not.
	u := unit(t, "class Main { static def main() { } }")
	for _, vals := range [][]api.Val{nil, {}} {
		if !Check(u, nil, api.Exec{End: api.EndReturn, Obs: []api.Obs{{Call: -1, Vals: vals}}}) {
			t.Error(vals)
		}
	}
	for _, obs := range [][]api.Obs{nil, {}} {
		if !Check(u, nil, api.Exec{End: api.EndSteps, Obs: obs}) || Check(u, nil, api.Exec{Obs: obs}) {
			t.Error(obs)
		}
	}
	// Where Run has an error, nothing is an execution.
	none := api.Exec{End: api.EndSteps}
	if Check(u, make([]int64, api.MaxInput+1), none) || !Check(u, make([]int64, api.MaxInput), none) {
		t.Error("the length of the input does not count")
	}
	for _, x := range []api.Exec{{}, none, {End: api.EndReturn}} {
		if Check(api.Unit{}, nil, x) {
			t.Error("an invalid unit has an execution")
		}
	}
	u = unit(t, "class Main { static def main() { while (1) { } } }")
	x := run(t, u, api.MaxSteps)
	if !Check(u, nil, x) {
		t.Error("the longest execution is none")
	}
	// The instructions go round, so that the step after the last one would be like one of the first.
	x.Obs = append(x.Obs, x.Obs[len(x.Obs)-3])
	if Check(u, nil, x) {
		t.Error("there is one step too many")
	}
}

func TestCheckExecutions(t *testing.T) { // P15.4
	for seed := range uint(200) {
		c := &chance{seed}
		for _, u := range unitsFor(seed) {
			input := c.input()
			x := run(t, u, c.upTo(200), input...)
			if !Check(u, input, x) {
				t.Fatalf("seed %d", seed)
			}
			if len(x.Obs) == 0 {
				continue
			}
			// A change in some step.
			o := &x.Obs[c.upTo(len(x.Obs))]
			var numbers []reflect.Value
			leaves(reflect.ValueOf(o).Elem(), func(v reflect.Value) { numbers = append(numbers, v) })
			v := some(c, numbers...)
			v.SetInt(v.Int() + some[int64](c, -1, 1, 7))
			if Check(u, input, x) {
				t.Fatalf("seed %d: %v", seed, *o)
			}
		}
	}
}

// spare returns a list that has a number behind its end.
func spare[T any](list []T, behind T) []T { return append(slices.Clone(list), behind)[:len(list)] }

func TestNoSharedMemory(t *testing.T) { // R5
	for seed := range uint(200) {
		c := &chance{seed}
		for k, u := range unitsFor(seed) {
			input := spare(c.input(), 77)
			before := slices.Clone(input)
			for n := range u.Funcs {
				for i := range u.Funcs[n].Code {
					u.Funcs[n].Code[i].Args = spare(u.Funcs[n].Code[i].Args, 99)
				}
			}
			x := run(t, u, 300, input...)
			again := run(t, u, 300, input...)
			if !sameExec(x, again) {
				t.Fatalf("seed %d: two executions differ", seed)
			}
			Check(u, input, x)
			for n := range x.Obs {
				vals := x.Obs[n].Vals[:cap(x.Obs[n].Vals)]
				for v := range vals {
					vals[v].Site = 1000 + n
				}
			}
			for n, o := range x.Obs {
				if slices.ContainsFunc(o.Vals[:cap(o.Vals)], func(v api.Val) bool { return v.Site != 1000+n }) {
					t.Fatalf("seed %d: two lists share memory", seed)
				}
			}
			if !sameExec(again, run(t, u, 300, input...)) || !ir.Same(u, unitsFor(seed)[k]) || !slices.Equal(input, before) || input[:len(input)+1][len(input)] != 77 {
				t.Fatalf("seed %d: an argument changed", seed)
			}
			for _, f := range u.Funcs {
				for _, i := range f.Code {
					if i.Args[:len(i.Args)+1][len(i.Args)] != 99 {
						t.Fatalf("seed %d: what stands behind arguments changed", seed)
					}
				}
			}
		}
	}
}

func TestLargeExecutions(t *testing.T) { // R1
	// As many variables as a function may have, in as many steps as an execution may have, with a new object in every other one.
	text := "class A\nfield f A\nclass Main\nmethod main static -\nfunc Main main\n" + strings.Repeat("var a A\n", api.MaxVars) +
		"-1 new 255 A\n-1 store 255 f 255\n-1 load 0 255 f\n-1 jump 0\n"
	u := read(t, text)
	x := run(t, u, api.MaxSteps)
	if last := x.Obs[api.MaxSteps-1]; x.End != api.EndSteps || last.Vals[0] != (api.Val{Kind: api.VRef, N: 1249}) {
		t.Error(x.End, last)
	}
	if !Check(u, nil, x) {
		t.Error("the execution is none")
	}
}

func TestSites(t *testing.T) { // P15.1
	// The sites count over the functions, and each object has a number of its own.
	u := unit(t, `class A { static def a(): A { return new A(); } static def b(): A { A::a(); return new A(); } }
class Main { static def main() { var x: A = A::b(); var y: A = new A(); var z: A = A::a(); x = A::b(); } }`)
	x := run(t, u, 100)
	if got := show(x.Obs[len(x.Obs)-1].Vals[:3]); got != "5@1 2@2 3@0" {
		t.Error(got)
	}
}
