package hier

import (
	"slices"

	"dataflow/api"
	"dataflow/lex"
)

// modelFind returns the first class with a name, and its index.
func modelFind(h api.Hier, name string) (api.ClassDecl, int) {
	for i, c := range h.Classes {
		if c.Name == name {
			return c, i
		}
	}
	return api.ClassDecl{}, -1
}

// modelChain returns the names of the chain from a class up, and whether the class before which it ends is in it.
func modelChain(h api.Hier, c api.ClassDecl) (names []string, cyclic bool) {
	if slices.Contains(names, c.Name) {
		return names, true
	}
	names = append(names, c.Name)
	for c.Super != "" {
		next, at := modelFind(h, c.Super)
		if at < 0 {
			return names, false
		}
		if slices.Contains(names, next.Name) {
			return names, true
		}
		names, c = append(names, next.Name), next
	}
	return names, false
}

func modelSupers(h api.Hier, class string) []string {
	c, at := modelFind(h, class)
	if at < 0 {
		return nil
	}
	names, _ := modelChain(h, c)
	return names
}

func modelSubs(h api.Hier, class string) []string {
	var names []string
	for _, c := range h.Classes {
		if slices.Contains(modelSupers(h, c.Name), class) && !slices.Contains(names, c.Name) {
			names = append(names, c.Name)
		}
	}
	slices.Sort(names)
	return names
}

func modelField(h api.Hier, class, name string) (string, string, bool) {
	for _, in := range modelSupers(h, class) {
		c, _ := modelFind(h, in)
		for _, f := range c.Fields {
			if f.Name == name {
				return in, f.Type, true
			}
		}
	}
	return "", "", false
}

func modelLookup(h api.Hier, class, method string) (string, api.Sig, bool) {
	for _, in := range modelSupers(h, class) {
		c, _ := modelFind(h, in)
		for _, m := range c.Methods {
			if m.Name == method {
				return in, m, true
			}
		}
	}
	return "", api.Sig{}, false
}

func modelTargets(h api.Hier, class, method string) []string {
	var names []string
	for _, sub := range modelSubs(h, class) {
		if in, _, ok := modelLookup(h, sub, method); ok && !slices.Contains(names, in) {
			names = append(names, in)
		}
	}
	slices.Sort(names)
	return names
}

func modelType(h api.Hier, s string) bool {
	_, at := modelFind(h, s)
	return s == "int" || at >= 0
}

// modelCheck returns what the chapter says of Check, one sentence after the other.
func modelCheck(h api.Hier) (int, api.Errno) {
	if len(h.Classes) > 64 {
		return -1, api.ErrTooLong
	}
	for i, c := range h.Classes {
		if e := modelHead(h, i, c); e != api.OK {
			return i, e
		}
		if len(c.Fields) > 16 || len(c.Methods) > 16 {
			return i, api.ErrTooLong
		}
		chain, _ := modelChain(h, c)
		for k := range c.Fields {
			if e := modelFieldFault(h, c, k, chain[1:]); e != api.OK {
				return i, e
			}
		}
		for k := range c.Methods {
			if e := modelMethodFault(h, c, k, chain[1:]); e != api.OK {
				return i, e
			}
		}
	}
	return 0, api.OK
}

func modelHead(h api.Hier, i int, c api.ClassDecl) api.Errno {
	if !lex.Ident(c.Name) {
		return api.ErrName
	}
	for _, earlier := range h.Classes[:i] {
		if earlier.Name == c.Name {
			return api.ErrExists
		}
	}
	if _, at := modelFind(h, c.Super); c.Super != "" && at < 0 {
		return api.ErrUnknown
	}
	if _, cyclic := modelChain(h, c); cyclic {
		return api.ErrCycle
	}
	return api.OK
}

func modelFieldFault(h api.Hier, c api.ClassDecl, k int, above []string) api.Errno {
	f := c.Fields[k]
	if !lex.Ident(f.Name) {
		return api.ErrName
	}
	if !modelType(h, f.Type) {
		return api.ErrType
	}
	others := slices.Clone(c.Fields[:k])
	for _, name := range above {
		up, _ := modelFind(h, name)
		others = append(others, up.Fields...)
	}
	for _, other := range others {
		if other.Name == f.Name {
			return api.ErrExists
		}
	}
	return api.OK
}

func modelMethodFault(h api.Hier, c api.ClassDecl, k int, above []string) api.Errno {
	m := c.Methods[k]
	if !lex.Ident(m.Name) {
		return api.ErrName
	}
	for _, other := range c.Methods[:k] {
		if other.Name == m.Name {
			return api.ErrExists
		}
	}
	if len(m.Params) > 6 {
		return api.ErrTooLong
	}
	for _, p := range m.Params {
		if !modelType(h, p) {
			return api.ErrType
		}
	}
	if m.Result != "" && !modelType(h, m.Result) {
		return api.ErrType
	}
	for _, name := range above {
		up, _ := modelFind(h, name)
		for _, other := range up.Methods {
			if other.Name == m.Name && (m.Static || other.Static || m.Result != other.Result || !slices.Equal(m.Params, other.Params)) {
				return api.ErrOverride
			}
		}
	}
	return api.OK
}

// sameSig reports whether two signatures are equal.
func sameSig(a, b api.Sig) bool {
	return a.Name == b.Name && a.Static == b.Static && a.Result == b.Result && slices.Equal(a.Params, b.Params)
}

// sameHier reports whether two hierarchies are equal.
func sameHier(a, b api.Hier) bool {
	return slices.EqualFunc(a.Classes, b.Classes, func(c, d api.ClassDecl) bool {
		return c.Name == d.Name && c.Super == d.Super && slices.Equal(c.Fields, d.Fields) && slices.EqualFunc(c.Methods, d.Methods, sameSig)
	})
}

// maker makes some hierarchies, other ones for each seed.
type maker struct{ seed uint }

// upTo returns some number from 0 to n-1.
func (m *maker) upTo(n int) int {
	m.seed = m.seed*6364136223846793005 + 1442695040888963407
	return int(m.seed >> 33 % uint(n))
}

// pick returns one of some texts, mostly one of those before the last one.
func (m *maker) pick(texts ...string) string {
	i := m.upTo(len(texts))
	if i == len(texts)-1 && m.upTo(4) > 0 {
		i = 0
	}
	return texts[i]
}

// wild returns a hierarchy that has a fault more often than not.
func (m *maker) wild() api.Hier {
	var h api.Hier
	for range m.upTo(6) {
		c := api.ClassDecl{Name: m.pick("A", "B", "C", "D", "E", ""), Super: m.pick("", "", "A", "B", "C", "D", "X")}
		for range m.upTo(3) {
			c.Fields = append(c.Fields, api.Field{Name: m.pick("f", "g", "h", "i", "1"), Type: m.pick("int", "A", "B", "Y")})
		}
		for range m.upTo(3) {
			c.Methods = append(c.Methods, m.sig())
		}
		h.Classes = append(h.Classes, c)
	}
	return h
}

func (m *maker) sig() api.Sig {
	sig := api.Sig{Name: m.pick("m", "n", "o", "p", "new"), Static: m.upTo(4) == 0, Result: m.pick("", "int", "A", "int ")}
	for range m.upTo(3) {
		sig.Params = append(sig.Params, m.pick("int", "A", "C", ""))
	}
	return sig
}

// tame returns a hierarchy that is often valid.
func (m *maker) tame() api.Hier {
	var h api.Hier
	sigs := []api.Sig{m.sig(), m.sig(), m.sig()}
	for i, name := range []string{"A", "B", "C", "D", "E"} {
		c := api.ClassDecl{Name: name, Super: []string{"", "A", "B", "C", "D"}[m.upTo(i+1)]}
		if m.upTo(2) == 0 {
			c.Fields = []api.Field{{Name: "f" + name, Type: m.pick("int", "A", "E")}}
		}
		for k, sig := range sigs {
			if m.upTo(2) == 0 {
				sig.Name, sig.Static = []string{"m", "n", "o"}[k], false
				c.Methods = append(c.Methods, sig)
			}
		}
		h.Classes = append(h.Classes, c)
	}
	for i := range h.Classes {
		k := m.upTo(i + 1)
		h.Classes[i], h.Classes[k] = h.Classes[k], h.Classes[i]
	}
	return h
}
