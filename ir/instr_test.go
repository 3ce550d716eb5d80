package ir

import (
	"math"
	"reflect"
	"slices"
	"strings"
	"testing"

	"dataflow/api"
)

func TestDefAndUses(t *testing.T) { // P13.3
	uses := usesOf()
	for op := -3; op <= 20; op++ {
		fields := uses[constants[op]]
		for _, a := range []int{7, 0, -1, -5, math.MinInt, math.MaxInt} {
			for _, args := range [][]int{nil, {3}, {4, 4, -1, math.MaxInt}} {
				i := api.Instr{Op: op, Dst: a, A: a, B: 9, N: 8, Class: "A", Name: "m", Args: args, Goto: 6, Catch: 5}
				def := -1
				var list []int
				for _, field := range []string{"A", "B", "Args"} { // in this order
					switch used := slices.Contains(fields, field); {
					case field == "A" && used && !(op == api.IReturn && a == -1):
						list = append(list, a)
					case field == "B" && used:
						list = append(list, 9)
					case field == "Args" && used:
						list = append(list, args...)
					}
				}
				if slices.Contains(fields, "Dst") {
					def = a
				}
				if Def(i) != def || !slices.Equal(Uses(i), list) {
					t.Errorf("%v: %d, %v", i, Def(i), Uses(i))
				}
			}
		}
	}
	i := api.Instr{Op: api.IStore, A: 1, B: 2, Name: "f", Catch: -1}
	if Def(i) != -1 || !slices.Equal(Uses(i), []int{1, 2}) {
		t.Error(Def(i), Uses(i))
	}
	for _, op := range []int{math.MinInt, math.MaxInt, 1 << 32} {
		if i := (api.Instr{Op: op, Dst: 1, A: 1}); Def(i) != -1 || len(Uses(i)) != 0 || Raises(i) {
			t.Errorf("%v", i)
		}
	}
}

func TestNext(t *testing.T) { // P13.3
	for n := range 5 {
		for op := -2; op <= 18; op++ {
			for _, to := range []int{-1, 0, 1, 2, 3, 4, 5, math.MinInt, math.MaxInt} {
				f := api.Func{Code: make([]api.Instr, n)}
				for k := range f.Code {
					f.Code[k] = api.Instr{Op: op, Goto: to, Catch: 2}
				}
				for _, i := range []int{-1, 0, 1, 2, 3, 4, 5, math.MinInt, math.MaxInt} {
					var want []int
					// All instructions in order, if they are among those that follow.
					for k := range n {
						after := op != api.IJump && op != api.IReturn && op != api.IThrow && k == i+1
						goes := (op == api.IJump || op == api.IBranch) && k == to
						if i >= 0 && i < n && (after || goes) {
							want = append(want, k)
						}
					}
					if got := Next(f, i); !slices.Equal(got, want) {
						t.Errorf("%d of %d instructions %d to %d: %v, not %v", i, n, op, to, got, want)
					}
				}
			}
		}
	}
}

func TestRaises(t *testing.T) { // P13.3
	for op := -3; op <= 20; op++ {
		want := slices.Contains([]string{"ICall", "IStatic", "IThrow", "ICatch"}, constants[op])
		for _, catch := range []int{-1, 0, 3} {
			if got := Raises(api.Instr{Op: op, Catch: catch}); got != want {
				t.Errorf("%d: %t", op, got)
			}
		}
	}
}

func TestValidUnitsGoOn(t *testing.T) { // P13.6
	for seed := range uint(300) {
		staysInCode(t, sample(seed, 1+int(seed%4)))
	}
}

func TestFind(t *testing.T) { // P13.4
	for seed := range uint(100) {
		u := sample(seed, 1)
		if Find(u, "Main", "main") != u.Main {
			t.Fatal(seed)
		}
		for k, f := range u.Funcs {
			if Find(u, f.Class, f.Name) != k {
				t.Fatal(seed, k)
			}
		}
	}
	u := api.Unit{Funcs: []api.Func{{Class: "A", Name: "m"}, {Class: "B", Name: "n"}, {Class: "A", Name: "n"}, {Class: "A", Name: "n"}, {}}}
	for _, c := range []struct {
		class, name string
		want        int
	}{{"A", "m", 0}, {"A", "n", 2}, {"B", "n", 1}, {"B", "m", -1}, {"", "", 4}, {"A", "", -1}} {
		if got := Find(u, c.class, c.name); got != c.want {
			t.Errorf("%s.%s: %d", c.class, c.name, got)
		}
	}
	if Find(api.Unit{}, "Main", "main") != -1 {
		t.Error("an empty unit has a function")
	}
}

// leaves calls a function for each number, text and truth in a value, which it may change.
func leaves(v reflect.Value, path string, each func(path string, v reflect.Value)) {
	switch v.Kind() {
	case reflect.Struct:
		for k := range v.NumField() {
			leaves(v.Field(k), path+"."+v.Type().Field(k).Name, each)
		}
	case reflect.Slice:
		each(path, v)
		for k := range v.Len() {
			leaves(v.Index(k), path+"[]", each)
		}
	default:
		each(path, v)
	}
}

func TestSame(t *testing.T) { // P13.4
	u := read(t, strings.Replace(everything, "\n6 nop\n", "\n7 nop\n", 1))
	other := copied(u)
	paths := map[string]bool{}
	leaves(reflect.ValueOf(&other).Elem(), "", func(path string, v reflect.Value) {
		if !Same(u, other) || !Same(other, u) {
			t.Fatalf("a copy is not the same before %s", path)
		}
		old := reflect.New(v.Type()).Elem()
		old.Set(v)
		switch v.Kind() {
		case reflect.Int, reflect.Int64:
			v.SetInt(v.Int() ^ 1<<40)
		case reflect.Bool:
			v.SetBool(!v.Bool())
		case reflect.String:
			v.SetString(v.String() + "x")
		case reflect.Slice:
			v.Set(reflect.Append(v, reflect.Zero(v.Type().Elem())))
		}
		if Same(u, other) || Same(other, u) {
			t.Errorf("%s does not count", path)
		}
		if v.Kind() == reflect.Slice && v.Len() > 1 {
			v.Set(old.Slice(0, old.Len()-1))
			if Same(u, other) || Same(other, u) {
				t.Errorf("the length of %s does not count", path)
			}
		}
		v.Set(old)
		paths[path] = true
	})
	if len(paths) != 34 {
		t.Errorf("%d fields were changed: %v", len(paths), paths)
	}
	leaves(reflect.ValueOf(&other).Elem(), "", func(path string, v reflect.Value) {
		if v.Kind() == reflect.Slice && v.Len() == 0 {
			v.Set(reflect.MakeSlice(v.Type(), 0, 0))
			if !Same(u, other) || !Same(other, u) {
				t.Errorf("the empty list %s is another one", path)
			}
			v.Set(reflect.Zero(v.Type()))
			if !Same(u, other) || !Same(other, u) {
				t.Errorf("without a list %s is another one", path)
			}
		}
	})
	if !Same(api.Unit{}, api.Unit{Funcs: []api.Func{}, Hier: api.Hier{Classes: []api.ClassDecl{}}}) {
		t.Error("empty lists differ")
	}
}

func TestNoSharedMemory(t *testing.T) { // R5
	args := []int{3, 4, 5}
	i := api.Instr{Op: api.ICall, A: 2, Args: args[:2]}
	list := Uses(i)
	list = list[:cap(list)]
	for k := range list {
		list[k] = 99
	}
	static := Uses(api.Instr{Op: api.IStatic, Args: args[:2]})
	static = static[:cap(static)]
	for k := range static {
		static[k] = 99
	}
	if !slices.Equal(args, []int{3, 4, 5}) {
		t.Error(args)
	}

	// Lists of a unit that was read grow and change by themselves.
	s := strings.Replace(everything, "\n6 nop\n", "\n7 nop\n", 1)
	u, again := read(t, s), read(t, s)
	var lists []reflect.Value
	leaves(reflect.ValueOf(&u).Elem(), "", func(path string, v reflect.Value) {
		if v.Kind() == reflect.Slice && v.Cap() > 0 {
			lists = append(lists, v.Slice(0, v.Cap()))
		}
	})
	for k, a := range lists {
		for _, b := range lists[:k] {
			from, to := a.Pointer(), b.Pointer()
			if from < to+uintptr(b.Len())*b.Type().Elem().Size() && to < from+uintptr(a.Len())*a.Type().Elem().Size() {
				t.Errorf("%v and %v share memory", a, b)
			}
		}
	}
	if len(lists) < 14 || !Same(u, again) {
		t.Error(len(lists))
	}

	// Check and Text leave a unit as it is, and what stands behind its lists.
	spare := copied(u)
	leaves(reflect.ValueOf(&spare).Elem(), "", func(path string, v reflect.Value) {
		if v.Kind() == reflect.Slice {
			v.Set(reflect.Append(v, reflect.Zero(v.Type().Elem())).Slice(0, v.Len()))
		}
	})
	Check(spare)
	Text(spare)
	Same(spare, u)
	leaves(reflect.ValueOf(&spare).Elem(), "", func(path string, v reflect.Value) {
		if v.Kind() == reflect.Slice && v.Cap() > v.Len() && !v.Slice(0, v.Len()+1).Index(v.Len()).IsZero() {
			t.Errorf("%s changed", path)
		}
	})
	if !Same(spare, u) {
		t.Error("the unit changed")
	}
}
