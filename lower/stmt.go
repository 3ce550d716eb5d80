package lower

import "dataflow/api"

// stmt lowers a statement, the first declaration of which has a slot.
func (l *lowerer) stmt(s api.Stmt, slot int) {
	switch s.Kind {
	case api.SVar:
		l.declaration(s, slot)
	case api.SAssign:
		l.assign(l.slots[s.Name], s.Exprs[0])
	case api.SStore:
		object := l.operand(s.Exprs[0])
		l.emit(api.Instr{Op: api.IStore, A: object, B: l.operand(s.Exprs[1]), Name: s.Name})
	case api.SIf:
		l.choice(s, slot)
	case api.SWhile:
		l.loop(s, slot)
	case api.STry:
		l.try(s, slot)
	case api.SThrow:
		l.emit(api.Instr{Op: api.IThrow, A: l.operand(s.Exprs[0])})
	case api.SReturn:
		result := -1
		for _, e := range s.Exprs {
			result = l.operand(e)
		}
		l.emit(api.Instr{Op: api.IReturn, A: result})
	case api.SCall:
		i, _ := l.called(s.Exprs[0])
		i.Dst = -1
		l.emit(i)
	}
}

func (l *lowerer) declaration(s api.Stmt, slot int) {
	l.slots[s.Name] = slot
	for _, e := range s.Exprs {
		l.assign(slot, e)
	}
}

// assign lowers an assignment of a value to a slot.
func (l *lowerer) assign(slot int, value api.Expr) {
	l.emit(api.Instr{Op: api.ICopy, Dst: slot, A: l.operand(value)})
}

// choice lowers an SIf. Its Body stands before its Else in the text, but behind it in the code.
func (l *lowerer) choice(s api.Stmt, slot int) {
	branch := l.emit(api.Instr{Op: api.IBranch, A: l.operand(s.Exprs[0])})
	l.block(s.Else, slot+declarations(s.Body...))
	jump := l.emit(api.Instr{Op: api.IJump})
	l.target(branch)
	l.block(s.Body, slot)
	l.target(jump)
}

func (l *lowerer) loop(s api.Stmt, slot int) {
	start := l.here()
	branch := l.emit(api.Instr{Op: api.IBranch, A: l.operand(s.Exprs[0])})
	jump := l.emit(api.Instr{Op: api.IJump})
	l.target(branch)
	l.block(s.Body, slot)
	l.emit(api.Instr{Op: api.IJump, Goto: start})
	l.target(jump)
}

func (l *lowerer) try(s api.Stmt, slot int) {
	start := l.here()
	l.block(s.Body, slot)
	jump := l.emit(api.Instr{Op: api.IJump})
	slot += declarations(s.Body...)
	l.protect(start, jump, l.emit(api.Instr{Op: api.ICatch, Dst: slot, Class: s.Type}))
	l.slots[s.Name] = slot
	l.block(s.Else, slot+1)
	l.target(jump)
}

// target lets a branch or jump lead to the next instruction.
func (l *lowerer) target(i int) { l.f.Code[i].Goto = l.here() }

// protect gives instructions a handler. Those of a body within the body have one already.
func (l *lowerer) protect(from, to, handler int) {
	for i := from; i < to; i++ {
		if l.f.Code[i].Catch < 0 {
			l.f.Code[i].Catch = handler
		}
	}
}
