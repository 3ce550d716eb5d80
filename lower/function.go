package lower

import (
	"strconv"

	"dataflow/api"
)

// function lowers a method of a program that is well typed.
func function(h api.Hier, class string, m api.Method) (api.Func, api.Errno) {
	params := parameters(class, m)
	f := api.Func{Class: class, Name: m.Name, Static: m.Static, Params: len(params), Vars: Slots(class, m), Result: m.Result}
	l := newLowerer(h, f)
	for i, v := range params {
		l.slots[v.Name] = i
	}
	l.block(m.Body, len(params))
	l.end()
	if l.full() || len(l.f.Code) > api.MaxCode {
		return api.Func{}, api.ErrTooLong
	}
	return l.f, api.OK
}

// lowerer emits the code of a function.
type lowerer struct {
	h     api.Hier
	f     api.Func
	first int                    // the number of variables that are slots
	slots map[string]int         // the variables in scope, and others that are used no more
	exprs []func(e api.Expr) int // what lowers each kind of expressions, and returns the operand
}

func newLowerer(h api.Hier, f api.Func) *lowerer {
	l := &lowerer{h: h, f: f, first: len(f.Vars), slots: map[string]int{}}
	l.exprs = []func(e api.Expr) int{
		api.EInt:    l.number,
		api.ENull:   l.null,
		api.EVar:    l.variable,
		api.EThis:   l.this,
		api.EInput:  l.input,
		api.EBin:    l.operation,
		api.ENew:    l.object,
		api.EField:  l.load,
		api.ECall:   l.call,
		api.EStatic: l.call,
	}
	return l
}

// full reports whether the function has too many variables.
func (l *lowerer) full() bool { return len(l.f.Vars) > api.MaxVars }

// here returns the index of the next instruction.
func (l *lowerer) here() int { return len(l.f.Code) }

// emit emits an instruction and returns its index.
func (l *lowerer) emit(i api.Instr) int {
	i.Catch = -1
	l.f.Code = append(l.f.Code, i)
	return l.here() - 1
}

// yield emits an instruction that assigns a new temporary, and returns it.
func (l *lowerer) yield(i api.Instr, typ string) int {
	i.Dst = len(l.f.Vars)
	l.f.Vars = append(l.f.Vars, api.Field{Name: "$" + strconv.Itoa(i.Dst-l.first), Type: typ})
	l.emit(i)
	return i.Dst
}

// typeOf returns the type of a variable.
func (l *lowerer) typeOf(v int) string { return l.f.Vars[v].Type }

// block lowers statements, the first declaration of which has a slot. While a variable is in scope, no other one with its name is declared.
func (l *lowerer) block(stmts []api.Stmt, slot int) {
	for _, s := range stmts {
		l.stmt(s, slot)
		slot += declarations(s)
	}
}

// end emits what a function does that has no statement left to execute.
func (l *lowerer) end() {
	result := -1
	switch l.f.Result {
	case "":
	case "int":
		result = l.number(api.Expr{})
	default:
		result = l.null(api.Expr{})
	}
	l.emit(api.Instr{Op: api.IReturn, A: result})
}
