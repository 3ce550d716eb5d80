package lower

import (
	"slices"

	"dataflow/api"
	"dataflow/hier"
)

// reader tells what is wrong with the instructions of a function, by the definition of layer 13.
type reader struct {
	h api.Hier
	f api.Func
}

// operand reports whether a number is that of a variable.
func (r reader) operand(v int) bool { return 0 <= v && v < len(r.f.Vars) }

func (r reader) class(t string) bool { return t != "int" && hier.Find(r.h, t) >= 0 }

// fits reports whether a type fits another one.
func (r reader) fits(from, to string) bool {
	return from == to || from == "null" && to != "int" || r.class(from) && r.class(to) && hier.IsSub(r.h, from, to)
}

// fault returns what is wrong with instruction k.
func (r reader) fault(k int) string {
	i := r.f.Code[k]
	if i.Op < api.INop || i.Op > api.IShift {
		return "its operation"
	}
	if f := r.numbers(i); f != "" {
		return f
	}
	ends := i.Op == api.IJump || i.Op == api.IReturn || i.Op == api.IThrow
	if !ends && (k+1 == len(r.f.Code) || r.f.Code[k+1].Op == api.ICatch) {
		return "what follows it"
	}
	if i.Op == api.ICatch && k == 0 {
		return "its index"
	}
	return r.types(i)
}

// numbers returns what is wrong with the numbers of variables and instructions.
func (r reader) numbers(i api.Instr) string {
	used := map[int]string{api.IConst: "d", api.INull: "d", api.ICopy: "da", api.IBin: "dab", api.IInput: "d", api.INew: "d", api.ILoad: "da", api.IStore: "ab", api.ICall: "da", api.IStatic: "d", api.IBranch: "ag", api.IJump: "g", api.IReturn: "a", api.IThrow: "a", api.IShift: "da", api.ICatch: "d"}[i.Op]
	for _, c := range used {
		v := map[rune]int{'d': i.Dst, 'a': i.A, 'b': i.B}[c]
		absent := v == -1 && (c == 'd' && (i.Op == api.ICall || i.Op == api.IStatic) || c == 'a' && i.Op == api.IReturn)
		if c != 'g' && !absent && !r.operand(v) {
			return "a variable"
		}
		if c == 'g' && (i.Goto < 0 || i.Goto >= len(r.f.Code) || r.f.Code[i.Goto].Op == api.ICatch) {
			return "where it goes"
		}
	}
	if !slices.Contains([]rune(used), 'g') && i.Goto != 0 || !slices.Contains([]rune(used), 'b') && i.B != 0 {
		return "a field that is not used"
	}
	for _, v := range i.Args {
		if !r.operand(v) {
			return "an argument"
		}
	}
	if i.Catch != -1 && (i.Catch < 0 || i.Catch >= len(r.f.Code) || r.f.Code[i.Catch].Op != api.ICatch) {
		return "its handler"
	}
	return ""
}

// types returns what is wrong with the types.
func (r reader) types(i api.Instr) string {
	t := func(v int) string {
		if !r.operand(v) {
			return ""
		}
		return r.f.Vars[v].Type
	}
	ok := true
	switch i.Op {
	case api.IConst, api.IInput:
		ok = t(i.Dst) == "int"
	case api.INull:
		ok = t(i.Dst) != "int"
	case api.ICopy:
		ok = r.fits(t(i.A), t(i.Dst))
	case api.IShift:
		ok = t(i.A) == "int" && t(i.Dst) == "int"
	case api.IBranch:
		ok = t(i.A) == "int"
	case api.IThrow:
		ok = t(i.A) != "int"
	case api.IBin:
		both := (t(i.A) == "int") == (t(i.B) == "int")
		ok = t(i.Dst) == "int" && both && (t(i.A) == "int" || i.N == api.OpEqual) && 1 <= i.N && i.N <= 5
	case api.INew, api.ICatch:
		ok = r.class(i.Class) && r.fits(i.Class, t(i.Dst))
	case api.ILoad, api.IStore:
		_, typ, found := hier.Field(r.h, t(i.A), i.Name)
		ok = r.class(t(i.A)) && found && (i.Op == api.ILoad && r.fits(typ, t(i.Dst)) || i.Op == api.IStore && r.fits(t(i.B), typ))
	case api.ICall, api.IStatic:
		in, sig, found := hier.Lookup(r.h, i.Class, i.Name)
		ok = found && sig.Static == (i.Op == api.IStatic) && len(i.Args) == len(sig.Params)
		ok = ok && (i.Op == api.ICall && t(i.A) == i.Class || i.Op == api.IStatic && in == i.Class)
		for k := range min(len(i.Args), len(sig.Params)) {
			ok = ok && r.fits(t(i.Args[k]), sig.Params[k])
		}
		ok = ok && (i.Dst == -1 || sig.Result != "" && r.fits(sig.Result, t(i.Dst)))
	case api.IReturn:
		ok = (i.A == -1) == (r.f.Result == "") && (i.A == -1 || r.fits(t(i.A), r.f.Result))
	}
	if !ok {
		return "a type"
	}
	return ""
}
