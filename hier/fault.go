package hier

import (
	"slices"

	"dataflow/api"
	"dataflow/lex"
)

// classFault returns the first error of class i.
func (t *tree) classFault(i int) api.Errno {
	c := t.classes[i]
	chain, cyclic := t.chain(i)
	switch {
	case !lex.Ident(c.Name):
		return api.ErrName
	case !t.counts(i):
		return api.ErrExists
	case c.Super != "" && !t.has(c.Super):
		return api.ErrUnknown
	case cyclic:
		return api.ErrCycle
	case len(c.Fields) > api.MaxFields || len(c.Methods) > api.MaxMethods:
		return api.ErrTooLong
	}
	above := chain[1:]
	for k := range c.Fields {
		if e := t.fieldFault(c.Fields[:k+1], above); e != api.OK {
			return e
		}
	}
	for k := range c.Methods {
		if e := t.methodFault(c.Methods[:k+1], above); e != api.OK {
			return e
		}
	}
	return api.OK
}

// fieldFault returns the error of the last one of these fields of a class, given the classes above.
func (t *tree) fieldFault(fields []api.Field, above []api.ClassDecl) api.Errno {
	last := len(fields) - 1
	f := fields[last]
	inherited := func(c api.ClassDecl) bool { return fieldIndex(c.Fields, f.Name) >= 0 }
	switch {
	case !lex.Ident(f.Name):
		return api.ErrName
	case !t.isType(f.Type):
		return api.ErrType
	case fieldIndex(fields, f.Name) < last || slices.ContainsFunc(above, inherited):
		return api.ErrExists
	}
	return api.OK
}

// methodFault returns the error of the last one of these methods of a class, given the classes above.
func (t *tree) methodFault(methods []api.Sig, above []api.ClassDecl) api.Errno {
	last := len(methods) - 1
	m := methods[last]
	clashes := func(other api.Sig) bool { return other.Name == m.Name && !overrides(m, other) }
	switch {
	case !lex.Ident(m.Name):
		return api.ErrName
	case sigIndex(methods, m.Name) < last:
		return api.ErrExists
	case len(m.Params) > api.MaxParams:
		return api.ErrTooLong
	case !t.areTypes(m.Params) || m.Result != "" && !t.isType(m.Result):
		return api.ErrType
	case slices.ContainsFunc(above, func(c api.ClassDecl) bool { return slices.ContainsFunc(c.Methods, clashes) }):
		return api.ErrOverride
	}
	return api.OK
}

// overrides reports whether a method may override another one of its name.
func overrides(m, other api.Sig) bool {
	return !m.Static && !other.Static && m.Result == other.Result && slices.Equal(m.Params, other.Params)
}

// isType reports whether a text is a type.
func (t *tree) isType(s string) bool { return s == "int" || t.has(s) }

// areTypes reports whether all texts are types.
func (t *tree) areTypes(texts []string) bool {
	return !slices.ContainsFunc(texts, func(s string) bool { return !t.isType(s) })
}
