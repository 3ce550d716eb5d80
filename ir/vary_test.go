package ir

import (
	"math"
	"slices"
	"strings"

	"dataflow/api"
	"dataflow/lower"
	"dataflow/samples"
)

// chance gives numbers that look random.
type chance struct{ seed uint }

// upTo returns some number from 0 to n-1.
func (c *chance) upTo(n int) int {
	c.seed = c.seed*6364136223846793005 + 1442695040888963407
	return int(c.seed >> 33 % uint(n))
}

func some[T any](c *chance, list ...T) T { return list[c.upTo(len(list))] }

// sample returns a unit of a program.
func sample(seed uint, size int) api.Unit {
	u, e := lower.Program(samples.Program(seed, size))
	if e != api.OK {
		panic("a sample cannot be lowered")
	}
	return u
}

// copied returns a unit that shares no memory with another one.
func copied(u api.Unit) api.Unit {
	u.Hier.Classes = slices.Clone(u.Hier.Classes)
	for k := range u.Hier.Classes {
		c := &u.Hier.Classes[k]
		c.Fields, c.Methods = slices.Clone(c.Fields), slices.Clone(c.Methods)
		for n := range c.Methods {
			c.Methods[n].Params = slices.Clone(c.Methods[n].Params)
		}
	}
	u.Funcs = slices.Clone(u.Funcs)
	for k := range u.Funcs {
		f := &u.Funcs[k]
		f.Vars, f.Code = slices.Clone(f.Vars), slices.Clone(f.Code)
		for n := range f.Code {
			f.Code[n].Args = slices.Clone(f.Code[n].Args)
		}
	}
	return u
}

// varied returns a unit with a change.
func varied(c *chance, u api.Unit) api.Unit {
	u = copied(u)
	f := &u.Funcs[c.upTo(len(u.Funcs))]
	switch c.upTo(16) {
	case 0:
		varyUnit(c, &u)
	case 1:
		varyClass(c, &u.Hier.Classes[c.upTo(len(u.Hier.Classes))])
	case 2:
		varyHead(c, f)
	case 3:
		if len(f.Vars) > 0 {
			v := &f.Vars[c.upTo(len(f.Vars))]
			if c.upTo(2) == 0 {
				v.Name = some(c, "x", "this", "$0", "$01", "$", "$-1", "$9223372036854775807", "$9223372036854775808", "$x", "class", "_x", "", strings.Repeat("y", api.MaxName), strings.Repeat("y", api.MaxName+1))
			} else {
				v.Type = some(c, "int", "null", "Main", "A", "B", "X", "", "-")
			}
		}
	case 4:
		varyCode(c, f)
	default:
		if len(f.Code) > 0 {
			varyInstr(c, f, &f.Code[c.upTo(len(f.Code))])
		}
	}
	return u
}

func varyUnit(c *chance, u *api.Unit) {
	k, n := c.upTo(len(u.Funcs)), c.upTo(len(u.Funcs))
	switch c.upTo(6) {
	case 0:
		u.Main = some(c, -1, k, len(u.Funcs), math.MaxInt, math.MinInt)
	case 1:
		u.Funcs = slices.Delete(u.Funcs, k, k+1)
	case 2:
		u.Funcs = append(u.Funcs, copied(*u).Funcs[k])
	case 3:
		u.Funcs[k], u.Funcs[n] = u.Funcs[n], u.Funcs[k]
	case 4:
		u.Hier.Classes = u.Hier.Classes[1:]
	case 5:
		u.Hier.Classes = nil
	}
}

func varyClass(c *chance, d *api.ClassDecl) {
	switch c.upTo(4) {
	case 0:
		d.Super = some(c, "", "Main", "A", "B", "C")
	case 1:
		if len(d.Fields) > 0 {
			d.Fields[c.upTo(len(d.Fields))] = api.Field{Name: some(c, "f", "g", "h", "k"), Type: some(c, "int", "A", "Main", "X")}
		}
	case 2:
		if len(d.Methods) > 0 {
			m := &d.Methods[c.upTo(len(d.Methods))]
			m.Static, m.Result = c.upTo(2) == 0, some(c, "int", "", "A", "null")
		}
	case 3:
		d.Name = some(c, "A", "B", "Main", "int", "null", "")
	}
}

func varyHead(c *chance, f *api.Func) {
	switch c.upTo(6) {
	case 0:
		f.Class = some(c, "Main", "A", "B", "")
	case 1:
		f.Name = some(c, "main", "m", "n", "")
	case 2:
		f.Static = !f.Static
	case 3:
		f.Params = some(c, f.Params-1, f.Params+1, 0, -1, len(f.Vars), len(f.Vars)+1, math.MaxInt, math.MinInt)
	case 4:
		f.Result = some(c, "int", "", "A", "Main", "null")
	case 5:
		f.Vars = f.Vars[:c.upTo(len(f.Vars)+1)]
	}
}

func varyCode(c *chance, f *api.Func) {
	if len(f.Code) == 0 {
		return
	}
	k, n := c.upTo(len(f.Code)), c.upTo(len(f.Code))
	switch c.upTo(4) {
	case 0:
		f.Code = slices.Delete(f.Code, k, k+1)
	case 1:
		f.Code[k], f.Code[n] = f.Code[n], f.Code[k]
	case 2:
		f.Code = slices.Insert(f.Code, k, f.Code[n])
	case 3:
		f.Code = f.Code[:c.upTo(2)]
	}
}

// varyInstr changes a field of an instruction.
func varyInstr(c *chance, f *api.Func, i *api.Instr) {
	variable := func() int {
		return some(c, c.upTo(len(f.Vars)+1), c.upTo(len(f.Vars)+1), c.upTo(len(f.Vars)+1), c.upTo(len(f.Vars)+1), 0, -1, -2, math.MaxInt, math.MinInt)
	}
	place := func() int { return some(c, c.upTo(len(f.Code)+1), c.upTo(len(f.Code)+1), -1, math.MinInt) }
	switch c.upTo(11) {
	case 0:
		i.Op = some(c, c.upTo(17), c.upTo(17), -1, 17, math.MaxInt)
	case 1:
		i.Dst = variable()
	case 2, 3:
		i.A = variable()
	case 4:
		i.B = variable()
	case 5:
		i.N = some[int64](c, 0, 1, 2, 4, 5, 6, -1, math.MinInt64)
	case 6:
		i.Class = some(c, "", "A", "B", "Main", "int", "null", "X")
	case 7:
		i.Name = some(c, "", "f", "g", "m", "n", "p", "main", "X")
	case 8:
		i.Args = some(c, nil, []int{variable()}, append(i.Args, variable()), []int{variable(), variable()})
		if len(i.Args) > 2 && c.upTo(2) == 0 {
			i.Args = i.Args[1:]
		}
	case 9:
		i.Goto = place()
	case 10:
		i.Catch = place()
	}
}
