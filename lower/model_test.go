package lower

import (
	"slices"
	"strconv"

	"dataflow/api"
	"dataflow/hier"
)

// The model first gives each variable the number of its slot as its name, in the order of the text. Then it writes lines with labels, which it resolves at the end.

// namer renames the variables of a method.
type namer struct{ count int }

// known returns the names with another one.
func known(scope map[string]string, name string, slot int) map[string]string {
	inner := map[string]string{name: strconv.Itoa(slot)}
	for k, v := range scope {
		if k != name {
			inner[k] = v
		}
	}
	return inner
}

func (n *namer) expr(scope map[string]string, e api.Expr) api.Expr {
	if e.Kind == api.EVar {
		e.Name = scope[e.Name]
	}
	if e.Kind == api.EThis {
		e = api.Expr{Kind: api.EVar, Name: "0"}
	}
	e.Kids = n.exprs(scope, e.Kids)
	return e
}

func (n *namer) exprs(scope map[string]string, list []api.Expr) []api.Expr {
	var renamed []api.Expr
	for _, e := range list {
		renamed = append(renamed, n.expr(scope, e))
	}
	return renamed
}

func (n *namer) block(scope map[string]string, list []api.Stmt) []api.Stmt {
	var renamed []api.Stmt
	for _, s := range list {
		name := s.Name
		s.Exprs = n.exprs(scope, s.Exprs)
		switch s.Kind {
		case api.SAssign:
			s.Name = scope[name]
		case api.SVar:
			s.Name = strconv.Itoa(n.count)
			scope = known(scope, name, n.count)
			n.count++
		}
		s.Body = n.block(scope, s.Body)
		inner := scope
		if s.Kind == api.STry {
			s.Name = strconv.Itoa(n.count)
			inner = known(scope, name, n.count)
			n.count++
		}
		s.Else = n.block(inner, s.Else)
		renamed = append(renamed, s)
	}
	return renamed
}

// line is an instruction, or a label if it has one.
type line struct {
	i       api.Instr
	label   string
	goTo    string
	handler string
}

// writer writes lines.
type writer struct {
	h       api.Hier
	slots   int
	vars    []api.Field
	lines   []line
	labels  int
	handler string
}

func (w *writer) label(text string) string {
	w.labels++
	return text + strconv.Itoa(w.labels)
}

func (w *writer) put(i api.Instr, goTo string) {
	w.lines = append(w.lines, line{i: i, goTo: goTo, handler: w.handler})
}

func (w *writer) place(label string) { w.lines = append(w.lines, line{label: label}) }

func slot(name string) int {
	at, _ := strconv.Atoi(name)
	return at
}

// typ returns the type of an expression.
func (w *writer) typ(e api.Expr) string {
	switch e.Kind {
	case api.ENull:
		return "null"
	case api.EVar:
		return w.vars[slot(e.Name)].Type
	case api.ENew:
		return e.Name
	case api.EField:
		_, typ, _ := hier.Field(w.h, w.typ(e.Kids[0]), e.Name)
		return typ
	case api.ECall:
		_, sig, _ := hier.Lookup(w.h, w.typ(e.Kids[0]), e.Name)
		return sig.Result
	case api.EStatic:
		_, sig, _ := hier.Lookup(w.h, e.Of, e.Name)
		return sig.Result
	}
	return "int"
}

// value writes an expression with the kind of destination that it has, and returns the operand.
func (w *writer) value(e api.Expr, discarded bool) int {
	if e.Kind == api.EVar {
		return slot(e.Name)
	}
	shift := e.Kind == api.EBin && (e.N == api.OpAdd || e.N == api.OpSub) && e.Kids[1].Kind == api.EInt
	var of []int
	for k, kid := range e.Kids {
		if !(shift && k == 1) {
			of = append(of, w.value(kid, false))
		}
	}
	i := api.Instr{Op: map[int]int{api.EInt: api.IConst, api.ENull: api.INull, api.EInput: api.IInput, api.EBin: api.IBin, api.ENew: api.INew, api.EField: api.ILoad, api.ECall: api.ICall, api.EStatic: api.IStatic}[e.Kind]}
	switch e.Kind {
	case api.EInt:
		i.N = e.N
	case api.EBin:
		i.A, i.N = of[0], e.N
		if shift {
			i.Op, i.N = api.IShift, e.Kids[1].N*(3-2*e.N)
		} else {
			i.B = of[1]
		}
	case api.ENew:
		i.Class = e.Name
	case api.EField:
		i.A, i.Name = of[0], e.Name
	case api.ECall:
		i.A, i.Args, i.Name, i.Class = of[0], of[1:], e.Name, w.typ(e.Kids[0])
	case api.EStatic:
		i.Args, i.Name = of, e.Name
		i.Class, _, _ = hier.Lookup(w.h, e.Of, e.Name)
	}
	if i.Dst = -1; !discarded {
		i.Dst = w.temporary(w.typ(e))
	}
	w.put(i, "")
	return i.Dst
}

func (w *writer) temporary(typ string) int {
	w.vars = append(w.vars, api.Field{Name: "$" + strconv.Itoa(len(w.vars)-w.slots), Type: typ})
	return len(w.vars) - 1
}

func (w *writer) block(list []api.Stmt) {
	for _, s := range list {
		w.stmt(s)
	}
}

func (w *writer) stmt(s api.Stmt) {
	one, two, zero := w.label("one"), w.label("two"), w.label("zero")
	switch s.Kind {
	case api.SVar, api.SAssign:
		for _, e := range s.Exprs {
			w.put(api.Instr{Op: api.ICopy, Dst: slot(s.Name), A: w.value(e, false)}, "")
		}
	case api.SStore:
		a := w.value(s.Exprs[0], false)
		b := w.value(s.Exprs[1], false)
		w.put(api.Instr{Op: api.IStore, A: a, B: b, Name: s.Name}, "")
	case api.SIf:
		w.put(api.Instr{Op: api.IBranch, A: w.value(s.Exprs[0], false)}, one)
		w.block(s.Else)
		w.put(api.Instr{Op: api.IJump}, two)
		w.place(one)
		w.block(s.Body)
		w.place(two)
	case api.SWhile:
		w.place(zero)
		w.put(api.Instr{Op: api.IBranch, A: w.value(s.Exprs[0], false)}, one)
		w.put(api.Instr{Op: api.IJump}, two)
		w.place(one)
		w.block(s.Body)
		w.put(api.Instr{Op: api.IJump}, zero)
		w.place(two)
	case api.STry:
		outer := w.handler
		w.handler = one
		w.block(s.Body)
		w.handler = outer
		w.put(api.Instr{Op: api.IJump}, two)
		w.place(one)
		w.put(api.Instr{Op: api.ICatch, Dst: slot(s.Name), Class: s.Type}, "")
		w.block(s.Else)
		w.place(two)
	case api.SThrow:
		w.put(api.Instr{Op: api.IThrow, A: w.value(s.Exprs[0], false)}, "")
	case api.SReturn:
		a := -1
		if len(s.Exprs) == 1 {
			a = w.value(s.Exprs[0], false)
		}
		w.put(api.Instr{Op: api.IReturn, A: a}, "")
	case api.SCall:
		w.value(s.Exprs[0], true)
	}
}

// code returns the instructions with the indices of labels.
func (w *writer) code() []api.Instr {
	at := map[string]int{}
	var code []api.Instr
	for _, l := range w.lines {
		if l.label != "" {
			at[l.label] = len(code)
		} else {
			code = append(code, l.i)
		}
	}
	k := 0
	for _, l := range w.lines {
		if l.label != "" {
			continue
		}
		code[k].Catch = -1
		if l.handler != "" {
			code[k].Catch = at[l.handler]
		}
		if l.goTo != "" {
			code[k].Goto = at[l.goTo]
		}
		k++
	}
	return code
}

// modelSlots returns the slots of a method.
func modelSlots(class string, m api.Method) []api.Field {
	var list []api.Field
	if !m.Static {
		list = append(list, api.Field{Name: "this", Type: class})
	}
	list = append(list, m.Params...)
	var visit func(stmts []api.Stmt)
	visit = func(stmts []api.Stmt) {
		for _, s := range stmts {
			if s.Kind == api.SVar {
				list = append(list, api.Field{Name: s.Name, Type: s.Type})
			}
			visit(s.Body)
			if s.Kind == api.STry {
				list = append(list, api.Field{Name: s.Name, Type: s.Type})
			}
			visit(s.Else)
		}
	}
	visit(m.Body)
	return list
}

func modelFunction(h api.Hier, class string, m api.Method) api.Func {
	f := api.Func{Class: class, Name: m.Name, Static: m.Static, Params: len(m.Params), Result: m.Result}
	if !m.Static {
		f.Params++
	}
	scope := map[string]string{}
	slots := modelSlots(class, m)
	for k, v := range slots[:f.Params] {
		scope[v.Name] = strconv.Itoa(k)
	}
	w := &writer{h: h, slots: len(slots), vars: slices.Clone(slots)}
	w.block((&namer{f.Params}).block(scope, m.Body))
	switch m.Result {
	case "":
		w.put(api.Instr{Op: api.IReturn, A: -1}, "")
	case "int":
		w.put(api.Instr{Op: api.IReturn, A: w.value(api.Expr{Kind: api.EInt}, false)}, "")
	default:
		w.put(api.Instr{Op: api.IReturn, A: w.value(api.Expr{Kind: api.ENull}, false)}, "")
	}
	f.Vars, f.Code = w.vars, w.code()
	return f
}

func sameInstr(a, b api.Instr) bool {
	args := slices.Equal(a.Args, b.Args)
	return args && a.Op == b.Op && a.Dst == b.Dst && a.A == b.A && a.B == b.B && a.N == b.N && a.Class == b.Class && a.Name == b.Name && a.Goto == b.Goto && a.Catch == b.Catch
}

func sameFunc(a, b api.Func) bool {
	head := a.Class == b.Class && a.Name == b.Name && a.Static == b.Static && a.Params == b.Params && a.Result == b.Result
	return head && slices.Equal(a.Vars, b.Vars) && slices.EqualFunc(a.Code, b.Code, sameInstr)
}

// sameHier reports whether two hierarchies are equal.
func sameHier(a, b api.Hier) bool {
	sameSig := func(a, b api.Sig) bool {
		return a.Name == b.Name && a.Static == b.Static && a.Result == b.Result && slices.Equal(a.Params, b.Params)
	}
	return slices.EqualFunc(a.Classes, b.Classes, func(a, b api.ClassDecl) bool {
		return a.Name == b.Name && a.Super == b.Super && slices.Equal(a.Fields, b.Fields) && slices.EqualFunc(a.Methods, b.Methods, sameSig)
	})
}
