package hier

import (
	"slices"
	"strconv"
	"strings"
	"testing"

	"dataflow/api"
)

// classes returns a hierarchy of classes that are given as "A" or "A B" for class A extends B.
func classes(list ...string) api.Hier {
	var h api.Hier
	for _, s := range list {
		name, super, _ := strings.Cut(s, " ")
		h.Classes = append(h.Classes, api.ClassDecl{Name: name, Super: super})
	}
	return h
}

func TestOf(t *testing.T) { // P10.1
	body := []api.Stmt{{Kind: api.SReturn}}
	f, g := api.Field{Name: "f", Type: "int"}, api.Field{Name: "g", Type: "?"}
	src := api.Source{Classes: []api.Class{
		{Name: "B", Super: "A", Fields: []api.Field{f, g, f}, Methods: []api.Method{{Name: "m", Static: true, Params: []api.Field{{Name: "p", Type: "int"}, {Name: "q", Type: "A"}}, Result: "B", Body: body}, {Name: "", Body: body}, {Name: "m"}}},
		{Name: "A"},
		{Name: "B", Fields: []api.Field{g}},
	}}
	want := api.Hier{Classes: []api.ClassDecl{
		{Name: "B", Super: "A", Fields: []api.Field{f, g, f}, Methods: []api.Sig{{Name: "m", Static: true, Params: []string{"int", "A"}, Result: "B"}, {}, {Name: "m"}}},
		{Name: "A"},
		{Name: "B", Fields: []api.Field{g}},
	}}
	if h := Of(src); !sameHier(h, want) {
		t.Errorf("Of: %v, want %v", h, want)
	}
	if h := Of(api.Source{}); len(h.Classes) != 0 {
		t.Errorf("Of no classes: %v", h)
	}
}

func TestOfSharesNoMemory(t *testing.T) { // R5
	fields := []api.Field{{Name: "f", Type: "int"}, {Name: "g", Type: "int"}, {Name: "h", Type: "int"}}
	params := []api.Field{{Name: "p", Type: "A"}, {Name: "q", Type: "B"}}
	methods := []api.Method{{Name: "m", Params: params[:1]}, {Name: "n", Params: params}}
	src := api.Source{Classes: []api.Class{{Name: "A", Fields: fields[:2], Methods: methods}, {Name: "B", Fields: fields[:1], Methods: methods}, {Name: "C", Fields: fields[:0]}}}
	h, again := Of(src), Of(src)
	for i := range h.Classes {
		c := &h.Classes[i]
		c.Fields = append(c.Fields, api.Field{Name: "x"})
		for k := range c.Fields {
			c.Fields[k].Type = "x"
		}
		for k := range c.Methods {
			c.Methods[k].Name = "x"
			c.Methods[k].Params = append(c.Methods[k].Params, "x")
			c.Methods[k].Params[0] = strconv.Itoa(10*i + k)
		}
	}
	if !sameHier(again, Of(src)) || fields[0].Type != "int" || fields[1].Name != "g" || fields[2].Name != "h" || params[0].Type != "A" || methods[0].Name != "m" {
		t.Error("Of shares memory with its argument or another result")
	}
	for i, c := range h.Classes[:2] {
		for k, m := range c.Methods {
			if m.Params[0] != strconv.Itoa(10*i+k) {
				t.Error("two lists share memory")
			}
		}
	}
}

func TestCheck(t *testing.T) { // P10.2
	with := func(h api.Hier, class int, fields []api.Field, methods ...api.Sig) api.Hier {
		h.Classes[class].Fields, h.Classes[class].Methods = fields, methods
		return h
	}
	f := func(name, typ string) []api.Field { return []api.Field{{Name: name, Type: typ}} }
	m := api.Sig{Name: "m"}
	static := api.Sig{Name: "m", Static: true}
	over := func(up, down api.Sig) api.Hier {
		return with(with(classes("A", "B A", "C B"), 0, nil, up), 2, nil, down)
	}
	for _, c := range []struct {
		what string
		h    api.Hier
		at   int
		want api.Errno
	}{
		{"no classes", api.Hier{}, 0, api.OK},
		{"the example", classes("A B", "B A"), 0, api.ErrCycle},
		{"a class above itself", classes("B", "A A"), 1, api.ErrCycle},
		{"a class above a cycle's", classes("X", "C A", "A B", "B A"), 1, api.ErrCycle},
		{"a superclass that follows", classes("C B", "B A", "A"), 0, api.OK},
		{"a keyword", classes("A", "int"), 1, api.ErrName},
		{"no name", classes("A", " A"), 1, api.ErrName},
		{"a name before its superclass", classes("1 X"), 0, api.ErrName},
		{"two classes", classes("A", "B", "A X"), 2, api.ErrExists},
		{"no superclass", classes("A", "B X"), 1, api.ErrUnknown},
		{"no superclass above", classes("A B", "B X"), 1, api.ErrUnknown},
		{"a faulty class above", classes("A 1", "1"), 1, api.ErrName},
		{"the first of two errors", classes("A B", "B X", "1"), 1, api.ErrUnknown},
		{"a field", with(classes("A", "B"), 0, f("f", "B")), 0, api.OK},
		{"a field with a bad name", with(classes("A", "B"), 1, f("this", "X")), 1, api.ErrName},
		{"a field with a bad type", with(classes("A", "B"), 1, append(f("f", "int"), f("f", "X")...)), 1, api.ErrType},
		{"a field without a type", with(classes("A"), 0, f("f", "")), 0, api.ErrType},
		{"two fields", with(classes("A", "B"), 1, append(f("f", "int"), f("f", "int")...)), 1, api.ErrExists},
		{"a field of two classes", with(with(classes("A", "B"), 0, f("f", "int")), 1, f("f", "int")), 0, api.OK},
		{"a field that is there above", with(with(classes("C B", "B A", "A"), 0, f("f", "int")), 2, f("f", "A")), 0, api.ErrExists},
		{"a field before a method", with(classes("A"), 0, f("f", "X"), api.Sig{}), 0, api.ErrType},
		{"a method", with(classes("A"), 0, f("m", "int"), api.Sig{Name: "m", Params: []string{"A", "int"}, Result: "A"}), 0, api.OK},
		{"a method with a bad name", with(classes("A"), 0, nil, m, api.Sig{Name: "m m"}), 0, api.ErrName},
		{"two methods", with(classes("A"), 0, nil, m, api.Sig{Name: "m", Params: slices.Repeat([]string{"X"}, 7)}), 0, api.ErrExists},
		{"a method with too many parameters", with(classes("A"), 0, nil, api.Sig{Name: "m", Params: slices.Repeat([]string{"X"}, 7)}), 0, api.ErrTooLong},
		{"a method with many parameters", with(classes("A"), 0, nil, api.Sig{Name: "m", Params: slices.Repeat([]string{"A"}, 6)}), 0, api.OK},
		{"a parameter without a type", with(classes("A"), 0, nil, api.Sig{Name: "m", Params: []string{"A", ""}}), 0, api.ErrType},
		{"a bad result", with(classes("A"), 0, nil, api.Sig{Name: "m", Result: "null"}), 0, api.ErrType},
		{"the same method", over(m, m), 0, api.OK},
		{"a static method below", over(m, static), 2, api.ErrOverride},
		{"a static method above", over(static, m), 2, api.ErrOverride},
		{"two static methods", over(static, static), 2, api.ErrOverride},
		{"two static methods of different classes", with(with(classes("A", "B"), 0, nil, static), 1, nil, static), 0, api.OK},
		{"another result", over(m, api.Sig{Name: "m", Result: "A"}), 2, api.ErrOverride},
		{"a narrower result", over(api.Sig{Name: "m", Result: "A"}, api.Sig{Name: "m", Result: "B"}), 2, api.ErrOverride},
		{"other parameters", over(api.Sig{Name: "m", Params: []string{"int"}}, m), 2, api.ErrOverride},
		{"another order of parameters", over(api.Sig{Name: "m", Params: []string{"int", "A"}}, api.Sig{Name: "m", Params: []string{"A", "int"}}), 2, api.ErrOverride},
		{"a bad type before another signature", over(m, api.Sig{Name: "m", Result: "X"}), 2, api.ErrType},
	} {
		if at, e := Check(c.h); at != c.at || e != c.want {
			t.Errorf("%s: Check %v: %d %d, want %d %d", c.what, c.h, at, int(e), c.at, int(c.want))
		}
		if at, e := modelCheck(c.h); at != c.at || e != c.want {
			t.Errorf("%s: the model: %d %d", c.what, at, int(e))
		}
	}
}

func TestCheckLimits(t *testing.T) { // P10.2
	many := func(count int) api.Hier {
		var h api.Hier
		for i := range count {
			h.Classes = append(h.Classes, api.ClassDecl{Name: "C" + strconv.Itoa(i)})
		}
		return h
	}
	if at, e := Check(many(64)); at != 0 || e != api.OK {
		t.Errorf("64 classes: %d %d", at, int(e))
	}
	h := many(65)
	h.Classes[0].Name = "1"
	if at, e := Check(h); at != -1 || e != api.ErrTooLong {
		t.Errorf("65 classes: %d %d", at, int(e))
	}
	for count, want := range map[int]api.Errno{16: api.OK, 17: api.ErrTooLong} {
		h, g := classes("B", "A"), classes("B", "A")
		for i := range count {
			h.Classes[1].Fields = append(h.Classes[1].Fields, api.Field{Name: "f" + strconv.Itoa(i), Type: "int"})
			g.Classes[1].Methods = append(g.Classes[1].Methods, api.Sig{Name: "m" + strconv.Itoa(i)})
		}
		for _, h := range []api.Hier{h, g} {
			at := 0
			if want != api.OK {
				at = 1
			}
			if i, e := Check(h); i != at || e != want {
				t.Errorf("%d fields or methods: %d %d", count, i, int(e))
			}
		}
	}
	g := classes("A")
	g.Classes[0].Methods = slices.Repeat([]api.Sig{{Name: "1"}}, 17)
	g.Classes[0].Fields = []api.Field{{Name: "1"}}
	if at, e := Check(g); at != 0 || e != api.ErrTooLong {
		t.Errorf("17 methods with bad names: %d %d", at, int(e))
	}
	deep := many(64)
	for i := range 63 {
		deep.Classes[i].Super = deep.Classes[i+1].Name
	}
	if at, e := Check(deep); at != 0 || e != api.OK || len(Supers(deep, "C0")) != 64 {
		t.Errorf("a chain of 64 classes: %d %d", at, int(e))
	}
	deep.Classes[63].Super = "C40"
	if at, e := Check(deep); at != 0 || e != api.ErrCycle || len(Supers(deep, "C0")) != 64 || len(Supers(deep, "C50")) != 24 {
		t.Errorf("a cycle above a chain: %d %d", at, int(e))
	}
}

func TestCheckLikeTheModel(t *testing.T) { // P10.2
	seen := map[api.Errno]int{}
	for seed := range uint(60000) {
		m := &maker{seed}
		h := m.wild()
		if seed%3 == 0 {
			h = m.tame()
		}
		at, e := modelCheck(h)
		seen[e]++
		if i, f := Check(h); i != at || f != e {
			t.Fatalf("Check %v: %d %d, want %d %d", h, i, int(f), at, int(e))
		}
	}
	for _, e := range []api.Errno{api.OK, api.ErrName, api.ErrExists, api.ErrUnknown, api.ErrCycle, api.ErrType, api.ErrOverride} {
		if seen[e] < 50 {
			t.Errorf("error %d occurs %d times", int(e), seen[e])
		}
	}
}

// queries are the names that are looked for in the samples.
var queries = []string{"A", "B", "C", "D", "E", "", "X"}

// compare compares all functions other than Of and Check with the model.
func compare(t *testing.T, h api.Hier) {
	t.Helper()
	for _, class := range queries {
		if _, at := modelFind(h, class); Find(h, class) != at {
			t.Fatalf("Find %v %q: %d, want %d", h, class, Find(h, class), at)
		}
		if l, want := Supers(h, class), modelSupers(h, class); !slices.Equal(l, want) {
			t.Fatalf("Supers %v %q: %q, want %q", h, class, l, want)
		}
		if l, want := Subs(h, class), modelSubs(h, class); !slices.Equal(l, want) {
			t.Fatalf("Subs %v %q: %q, want %q", h, class, l, want)
		}
		for _, other := range queries {
			if got, want := IsSub(h, class, other), slices.Contains(modelSupers(h, class), other); got != want {
				t.Fatalf("IsSub %v %q %q: %v, want %v", h, class, other, got, want)
			}
		}
		for _, name := range []string{"f", "g", "h", "1", "", "fA"} {
			in, typ, ok := Field(h, class, name)
			if wantIn, wantTyp, want := modelField(h, class, name); in != wantIn || typ != wantTyp || ok != want {
				t.Fatalf("Field %v %q %q: %q %q %v, want %q %q %v", h, class, name, in, typ, ok, wantIn, wantTyp, want)
			}
		}
		for _, name := range []string{"m", "n", "new", ""} {
			in, sig, ok := Lookup(h, class, name)
			if wantIn, wantSig, want := modelLookup(h, class, name); in != wantIn || !sameSig(sig, wantSig) || ok != want {
				t.Fatalf("Lookup %v %q %q: %q %v %v, want %q %v %v", h, class, name, in, sig, ok, wantIn, wantSig, want)
			}
			if l, want := Targets(h, class, name), modelTargets(h, class, name); !slices.Equal(l, want) {
				t.Fatalf("Targets %v %q %q: %q, want %q", h, class, name, l, want)
			}
		}
	}
}

func TestQueriesLikeTheModel(t *testing.T) { // P10.3, P10.4, P10.5
	for seed := range uint(4000) {
		m := &maker{seed}
		compare(t, m.wild())
		compare(t, m.tame())
	}
}

func TestQueriesOfSmallHierarchies(t *testing.T) { // P10.3, P10.4, P10.5
	names, supers := []string{"A", "B", "C", ""}, []string{"", "A", "B", "C", "X"}
	count := len(names) * len(supers)
	class := func(k, i int) api.ClassDecl {
		c := api.ClassDecl{Name: names[k%len(names)], Super: supers[k/len(names)]}
		if i != 1 {
			c.Methods = []api.Sig{{Name: "m", Result: strconv.Itoa(i)}, {Name: "m", Static: true}}
			c.Fields = []api.Field{{Name: "f", Type: strconv.Itoa(i)}, {Name: "f", Type: "int"}}
		}
		return c
	}
	for k := range count * count * count {
		compare(t, api.Hier{Classes: []api.ClassDecl{class(k%count, 0), class(k/count%count, 1), class(k/count/count, 2)}})
	}
}

func TestExamples(t *testing.T) { // P10.3, P10.4, P10.5
	h := classes("A", "B A", "C B")
	if l := Supers(h, "C"); !slices.Equal(l, []string{"C", "B", "A"}) {
		t.Errorf("Supers: %q", l)
	}
	if l := Subs(h, "B"); !slices.Equal(l, []string{"B", "C"}) {
		t.Errorf("Subs: %q", l)
	}
	if !IsSub(h, "C", "A") || IsSub(h, "A", "C") || !IsSub(h, "B", "B") || IsSub(h, "X", "X") {
		t.Error("IsSub")
	}
	h = classes("A", "B A")
	h.Classes[0].Fields = []api.Field{{Name: "f", Type: "int"}}
	h.Classes[0].Methods = []api.Sig{{Name: "m"}}
	h.Classes[1].Methods = []api.Sig{{Name: "m"}}
	if in, typ, ok := Field(h, "B", "f"); in != "A" || typ != "int" || !ok {
		t.Errorf("Field: %q %q %v", in, typ, ok)
	}
	if in, sig, ok := Lookup(h, "B", "m"); in != "B" || sig.Name != "m" || !ok {
		t.Errorf("Lookup: %q %v %v", in, sig, ok)
	}
	if l := Targets(h, "A", "m"); !slices.Equal(l, []string{"A", "B"}) {
		t.Errorf("Targets of A: %q", l)
	}
	if l := Targets(h, "B", "m"); !slices.Equal(l, []string{"B"}) {
		t.Errorf("Targets of B: %q", l)
	}
	// An instance method of a subclass is among the targets even if the class has none.
	h.Classes[0].Methods = nil
	if l := Targets(h, "A", "m"); !slices.Equal(l, []string{"B"}) {
		t.Errorf("Targets of A: %q", l)
	}
}

func TestPropertiesOfValidHierarchies(t *testing.T) { // P10.6, P10.7
	valid := 0
	for seed := range uint(4000) {
		h := (&maker{seed}).tame()
		if _, e := Check(h); e != api.OK {
			continue
		}
		valid++
		for _, c := range h.Classes {
			supers := Supers(h, c.Name)
			if root, _ := modelFind(h, supers[len(supers)-1]); root.Super != "" || !IsSub(h, c.Name, c.Name) {
				t.Errorf("%v: Supers of %s are %q", h, c.Name, supers)
			}
			for _, d := range h.Classes {
				checkPair(t, h, c.Name, d.Name)
			}
		}
	}
	if valid < 500 {
		t.Errorf("only %d are valid", valid)
	}
}

// checkPair checks what follows if one class is a subclass of another one.
func checkPair(t *testing.T, h api.Hier, a, b string) {
	t.Helper()
	if a != b && IsSub(h, a, b) && IsSub(h, b, a) {
		t.Errorf("%v: %s and %s are subclasses of each other", h, a, b)
	}
	if !IsSub(h, a, b) {
		return
	}
	for _, c := range h.Classes {
		if IsSub(h, b, c.Name) && !IsSub(h, a, c.Name) {
			t.Errorf("%v: %s is a subclass of %s, but not of its superclass %s", h, a, b, c.Name)
		}
		for _, f := range c.Fields {
			if in, typ, ok := Field(h, b, f.Name); ok {
				if in2, typ2, ok2 := Field(h, a, f.Name); in2 != in || typ2 != typ || !ok2 {
					t.Errorf("%v: field %s of %s and %s", h, f.Name, a, b)
				}
			}
		}
	}
	for _, name := range []string{"m", "n", "o"} {
		_, sig, ok := Lookup(h, b, name)
		in, sig2, ok2 := Lookup(h, a, name)
		if ok && (!ok2 || !sameSig(sig, sig2)) {
			t.Errorf("%v: method %s of %s and %s", h, name, a, b)
		}
		if ok2 && !slices.Contains(Targets(h, b, name), in) {
			t.Errorf("%v: method %s of %s is not among the targets of %s", h, name, a, b)
		}
	}
}

func TestMemory(t *testing.T) { // R5
	params := []string{"int", "A", "B"}
	h := classes("A", "B A")
	h.Classes[0].Methods = []api.Sig{{Name: "m", Params: params[:1]}, {Name: "n", Params: params}}
	_, sig, _ := Lookup(h, "B", "m")
	_, again, _ := Lookup(h, "B", "m")
	sig.Params = append(sig.Params, "x")
	sig.Params[0] = "y"
	if !slices.Equal(params, []string{"int", "A", "B"}) || again.Params[0] != "int" {
		t.Error("Lookup shares memory")
	}
	for seed := range uint(200) {
		h, same := (&maker{seed}).wild(), (&maker{seed}).wild()
		h.Classes = append(h.Classes, api.ClassDecl{Name: "Z"})[:len(h.Classes)]
		Check(h)
		compare(t, h)
		if !sameHier(h, same) || h.Classes[:len(h.Classes)+1][len(h.Classes)].Name != "Z" {
			t.Errorf("%v is changed", same)
		}
	}
}

func TestManyClasses(t *testing.T) { // R1
	var list []string
	for i := range 20000 {
		list = append(list, "C"+strconv.Itoa(i)+" C"+strconv.Itoa((i+1)%19999))
	}
	h := classes(list...)
	for i := range h.Classes {
		h.Classes[i].Methods = []api.Sig{{Name: "m"}}
	}
	if at, e := Check(h); at != -1 || e != api.ErrTooLong {
		t.Errorf("Check: %d %d", at, int(e))
	}
	if a, b, c := len(Supers(h, "C19999")), len(Subs(h, "C7")), len(Targets(h, "C7", "m")); a != 20000 || b != 20000 || c != 20000 {
		t.Errorf("%d in the chain, %d below, %d targets", a, b, c)
	}
	if IsSub(h, "C0", "C19999") || !IsSub(h, "C3", "C2") || Find(h, "C19999") != 19999 {
		t.Error("IsSub")
	}
}
