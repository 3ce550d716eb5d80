package ir

import (
	"strconv"
	"strings"

	"dataflow/api"
	"dataflow/lex"
)

// checker checks a function of a unit, the hierarchy of which is valid.
type checker struct {
	classes
	f api.Func
}

// function returns the error of the function of a method, with the index of the instruction that has it, or -1.
func (c checker) function(m method) (int, api.Errno) {
	if e := c.head(m); e != api.OK {
		return -1, e
	}
	for k := range c.f.Code {
		if e := c.instruction(k); e != api.OK {
			return k, e
		}
	}
	return 0, api.OK
}

// head returns the error of the function apart from its instructions.
func (c checker) head(m method) api.Errno {
	if !c.isFunctionOf(m) {
		return api.ErrMismatch
	}
	if len(c.f.Vars) > api.MaxVars || len(c.f.Code) > api.MaxCode {
		return api.ErrTooLong
	}
	for k, v := range c.f.Vars {
		if !lex.Ident(v.Name) && !isTemporary(v.Name) && !(k == 0 && !c.f.Static && v.Name == "this") {
			return api.ErrName
		}
		if !c.isType(v.Type) {
			return api.ErrType
		}
	}
	if len(c.f.Code) == 0 {
		return api.ErrInvalid
	}
	return api.OK
}

// isFunctionOf reports whether the function has the signature of a method.
func (c checker) isFunctionOf(m method) bool {
	f := c.f
	if f.Class != m.class || f.Name != m.sig.Name || f.Static != m.sig.Static || f.Result != m.sig.Result {
		return false
	}
	if f.Params != m.params() || len(f.Vars) < f.Params {
		return false
	}
	params := f.Vars[:f.Params]
	if !f.Static {
		if params[0] != (api.Field{Name: "this", Type: f.Class}) {
			return false
		}
		params = params[1:]
	}
	for k, typ := range m.sig.Params {
		if params[k].Type != typ {
			return false
		}
	}
	return true
}

// isTemporary reports whether a name is $ with a natural number, of which there are none that are longer than MaxName.
func isTemporary(name string) bool {
	digits, found := strings.CutPrefix(name, "$")
	n, fits := number(digits)
	return found && fits && n >= 0
}

// number returns the number with a text, if it is written as numbers are printed.
func number(text string) (int64, bool) {
	n, err := strconv.ParseInt(text, 10, 64)
	if err != nil || strconv.FormatInt(n, 10) != text {
		return 0, false
	}
	return n, true
}

// instruction returns the error of an instruction.
func (c checker) instruction(k int) api.Errno {
	i := c.f.Code[k]
	if !isOperation(i.Op) || i.Op == api.IBin && !isOperator(i.N) {
		return api.ErrKind
	}
	if !unusedAreZero(i) {
		return api.ErrInvalid
	}
	if !c.inRange(i) {
		return api.ErrRange
	}
	if !c.staysInCode(k) {
		return api.ErrInvalid
	}
	return c.types(i)
}

// unusedAreZero reports whether the fields that the operation does not use are zero.
func unusedAreZero(i api.Instr) bool {
	// The instruction is a copy, so that the fields that are used can be cleared.
	for _, letter := range words(i.Op) {
		switch p := field(&i, letter).(type) {
		case *int:
			*p = 0
		case *int64:
			*p = 0
		case *string:
			*p = ""
		case *[]int:
			*p = nil
		}
	}
	i.Op, i.Catch = 0, 0
	return sameInstr(i, api.Instr{})
}

// inRange reports whether the fields that the operation uses are in range.
func (c checker) inRange(i api.Instr) bool {
	for _, letter := range words(i.Op) {
		switch letter {
		case 'd', 'a', 'b':
			v := *field(&i, letter).(*int)
			if !c.isVariable(v) && !(v == -1 && mayBeAbsent(i.Op, letter)) {
				return false
			}
		case 'l':
			for _, v := range i.Args {
				if !c.isVariable(v) {
					return false
				}
			}
		case 'g':
			if !isIndex(c.f, i.Goto) {
				return false
			}
		}
	}
	return i.Catch == -1 || c.isCatch(i.Catch)
}

// isVariable reports whether a number is that of a variable.
func (c checker) isVariable(v int) bool { return 0 <= v && v < len(c.f.Vars) }

// mayBeAbsent reports whether the variable for which a letter stands may be -1.
func mayBeAbsent(op int, letter rune) bool {
	switch op {
	case api.ICall, api.IStatic:
		return letter == 'd'
	}
	return op == api.IReturn
}

// isCatch reports whether a number is the index of a handler.
func (c checker) isCatch(k int) bool { return isIndex(c.f, k) && c.f.Code[k].Op == api.ICatch }

// staysInCode reports whether control neither leaves the code at an instruction nor enters a handler without an exception.
func (c checker) staysInCode(k int) bool {
	i := c.f.Code[k]
	switch i.Op {
	case api.IReturn, api.IThrow:
		return true
	case api.IJump:
		return !c.isCatch(i.Goto)
	case api.IBranch:
		if c.isCatch(i.Goto) {
			return false
		}
	case api.ICatch:
		if k == 0 {
			return false
		}
	}
	return isIndex(c.f, k+1) && !c.isCatch(k+1)
}
