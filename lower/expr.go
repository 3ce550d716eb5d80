package lower

import (
	"dataflow/api"
	"dataflow/hier"
)

// operand lowers an expression and returns the variable that has its value. It returns any variable if there are too many: such a function is dropped, and the tree may be far larger than the limits.
func (l *lowerer) operand(e api.Expr) int {
	if l.full() {
		return 0
	}
	return l.exprs[e.Kind](e)
}

// operands lowers expressions from left to right.
func (l *lowerer) operands(exprs []api.Expr) []int {
	var list []int
	for _, e := range exprs {
		list = append(list, l.operand(e))
	}
	return list
}

func (l *lowerer) number(e api.Expr) int {
	return l.yield(api.Instr{Op: api.IConst, N: e.N}, "int")
}

func (l *lowerer) null(api.Expr) int { return l.yield(api.Instr{Op: api.INull}, "null") }

func (l *lowerer) variable(e api.Expr) int { return l.slots[e.Name] }

func (l *lowerer) this(api.Expr) int { return 0 }

func (l *lowerer) input(api.Expr) int { return l.yield(api.Instr{Op: api.IInput}, "int") }

func (l *lowerer) operation(e api.Expr) int {
	a := l.operand(e.Kids[0])
	second := e.Kids[1]
	switch {
	case second.Kind == api.EInt && e.N == api.OpAdd:
		return l.yield(api.Instr{Op: api.IShift, A: a, N: second.N}, "int")
	case second.Kind == api.EInt && e.N == api.OpSub:
		return l.yield(api.Instr{Op: api.IShift, A: a, N: -second.N}, "int")
	}
	return l.yield(api.Instr{Op: api.IBin, A: a, B: l.operand(second), N: e.N}, "int")
}

func (l *lowerer) object(e api.Expr) int {
	return l.yield(api.Instr{Op: api.INew, Class: e.Name}, e.Name)
}

func (l *lowerer) load(e api.Expr) int {
	object := l.operand(e.Kids[0])
	_, typ, _ := hier.Field(l.h, l.typeOf(object), e.Name)
	return l.yield(api.Instr{Op: api.ILoad, A: object, Name: e.Name}, typ)
}

func (l *lowerer) call(e api.Expr) int { return l.yield(l.called(e)) }

// called returns the instruction of a call, after its operands have been lowered, and the type of its result.
func (l *lowerer) called(e api.Expr) (api.Instr, string) {
	if e.Kind == api.EStatic {
		in, sig, _ := hier.Lookup(l.h, e.Of, e.Name)
		return api.Instr{Op: api.IStatic, Class: in, Name: e.Name, Args: l.operands(e.Kids)}, sig.Result
	}
	object := l.operand(e.Kids[0])
	class := l.typeOf(object)
	_, sig, _ := hier.Lookup(l.h, class, e.Name)
	return api.Instr{Op: api.ICall, A: object, Class: class, Name: e.Name, Args: l.operands(e.Kids[1:])}, sig.Result
}
