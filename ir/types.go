package ir

import "dataflow/api"

// needType returns ErrType unless types fit, as far as it is told.
func needType(fit bool) api.Errno {
	if !fit {
		return api.ErrType
	}
	return api.OK
}

// typeOf returns the type of a variable.
func (c checker) typeOf(v int) string { return c.f.Vars[v].Type }

// isInt reports whether a variable is an integer.
func (c checker) isInt(v int) bool { return c.typeOf(v) == "int" }

// types returns the error of the types of an instruction, the numbers of which are in range.
func (c checker) types(i api.Instr) api.Errno {
	switch i.Op {
	case api.IConst, api.IInput:
		return needType(c.isInt(i.Dst))
	case api.INull:
		return needType(!c.isInt(i.Dst))
	case api.ICopy:
		return needType(c.fits(c.typeOf(i.A), c.typeOf(i.Dst)))
	case api.IShift:
		return needType(c.isInt(i.A) && c.isInt(i.Dst))
	case api.IBin:
		operands := c.isInt(i.A) == c.isInt(i.B) && (c.isInt(i.A) || i.N == api.OpEqual)
		return needType(c.isInt(i.Dst) && operands)
	case api.IBranch:
		return needType(c.isInt(i.A))
	case api.IThrow:
		return needType(!c.isInt(i.A))
	case api.INew, api.ICatch:
		return c.instance(i)
	case api.ILoad, api.IStore:
		return c.access(i)
	case api.ICall:
		return c.call(i)
	case api.IStatic:
		return c.staticCall(i)
	case api.IReturn:
		return c.returned(i)
	}
	return api.OK
}

// instance returns the error of an instruction that assigns an object of a class.
func (c checker) instance(i api.Instr) api.Errno {
	if !c.exists(i.Class) {
		return api.ErrUnknown
	}
	return needType(c.fits(i.Class, c.typeOf(i.Dst)))
}

// access returns the error of an instruction that reads or assigns a field.
func (c checker) access(i api.Instr) api.Errno {
	class := c.typeOf(i.A)
	if !c.exists(class) {
		return api.ErrType
	}
	f := c.field(pair{class, i.Name})
	if !f.found {
		return api.ErrUnknown
	}
	if i.Op == api.ILoad {
		return needType(c.fits(f.of, c.typeOf(i.Dst)))
	}
	return needType(c.fits(c.typeOf(i.B), f.of))
}

func (c checker) call(i api.Instr) api.Errno {
	class := c.typeOf(i.A)
	if !c.exists(class) || class != i.Class {
		return api.ErrType
	}
	m := c.method(pair{class, i.Name})
	if !m.found || m.of.Static {
		return api.ErrUnknown
	}
	return c.passed(i, m.of)
}

func (c checker) staticCall(i api.Instr) api.Errno {
	m := c.method(pair{i.Class, i.Name})
	if !m.found || m.in != i.Class || !m.of.Static {
		return api.ErrUnknown
	}
	return c.passed(i, m.of)
}

// passed returns the error of the arguments and the result of a call.
func (c checker) passed(i api.Instr, sig api.Sig) api.Errno {
	if len(i.Args) != len(sig.Params) {
		return api.ErrArity
	}
	for k, v := range i.Args {
		if !c.fits(c.typeOf(v), sig.Params[k]) {
			return api.ErrType
		}
	}
	return needType(i.Dst == -1 || sig.Result != "" && c.fits(sig.Result, c.typeOf(i.Dst)))
}

// returned returns the error of a return.
func (c checker) returned(i api.Instr) api.Errno {
	if (i.A == -1) != (c.f.Result == "") {
		return api.ErrArity
	}
	return needType(i.A == -1 || c.fits(c.typeOf(i.A), c.f.Result))
}
