// Package samples makes programs for the tests of the layers. They are well typed, and other ones for each seed.
package samples

import (
	"slices"
	"strconv"

	"dataflow/api"
	"dataflow/hier"
)

// Program returns a program of up to five classes, in the methods of which no block has more statements than size.
func Program(seed uint, size int) api.Source {
	m := &maker{seed: seed, size: size}
	m.classes()
	m.collect()
	for i, c := range m.src.Classes {
		for k := range c.Methods {
			m.body(c.Name, &m.src.Classes[i].Methods[k])
		}
	}
	return m.src
}

// maker makes a program: first all classes, then the bodies of their methods.
type maker struct {
	seed   uint
	size   int
	src    api.Source
	names  []string            // of the classes
	supers map[string][]string // of each class
	subs   map[string][]string // of each class
	fields []member            // of all classes
	calls  []callee            // all methods that may be called
	scope  []api.Field         // the variables in scope, and this
	result string              // of the method
	locals int                 // the number of local variables of the method so far
	loops  int                 // the number of loops of the method so far
}

// member is a field of a class.
type member struct {
	class string
	field api.Field
}

// callee is a method, and a class that has it, perhaps from a superclass.
type callee struct {
	class string
	sig   api.Sig
}

// upTo returns some number from 0 to n-1.
func (m *maker) upTo(n int) int {
	m.seed = m.seed*6364136223846793005 + 1442695040888963407
	return int(m.seed >> 33 % uint(n))
}

// oneIn tells one time in n that something is so.
func (m *maker) oneIn(n int) bool { return m.upTo(n) == 0 }

// some returns some item of a list.
func some[T any](m *maker, list []T) T { return list[m.upTo(len(list))] }

// classes makes the classes, in some order, with methods that have no bodies.
func (m *maker) classes() {
	m.names = slices.Clone([]string{"Main", "A", "B", "C", "D"}[:2+m.upTo(4)])
	for i, name := range m.names {
		c := api.Class{Name: name}
		if i > 0 && !m.oneIn(3) {
			c.Super = some(m, m.names[:i])
		}
		m.src.Classes = append(m.src.Classes, c)
		for range m.upTo(4) {
			m.field(i)
		}
		for range 1 + m.upTo(4) {
			m.method(i)
		}
	}
	main := api.Method{Name: "main", Static: true}
	m.src.Classes[0].Methods = append(m.src.Classes[0].Methods, main)
	for i := range m.src.Classes {
		k := m.upTo(i + 1)
		m.src.Classes[i], m.src.Classes[k] = m.src.Classes[k], m.src.Classes[i]
	}
}

// typ returns some type.
func (m *maker) typ() string {
	if m.oneIn(2) {
		return "int"
	}
	return some(m, m.names)
}

// field gives a class a field, unless it has one with this name.
func (m *maker) field(i int) {
	c := &m.src.Classes[i]
	f := api.Field{Name: some(m, []string{"f", "g", "h"}), Type: m.typ()}
	if _, _, found := hier.Field(hier.Of(m.src), c.Name, f.Name); !found {
		c.Fields = append(c.Fields, f)
	}
}

// method gives a class a method, unless it has one with this name. It may override one of a superclass.
func (m *maker) method(i int) {
	c := &m.src.Classes[i]
	d := api.Method{Name: some(m, []string{"m", "n", "p", "q"}), Static: m.oneIn(4)}
	in, sig, found := hier.Lookup(hier.Of(m.src), c.Name, d.Name)
	if found && (in == c.Name || sig.Static) {
		return
	}
	if !found {
		sig = m.sig(d)
	}
	d.Static, d.Result = sig.Static, sig.Result
	for k, typ := range sig.Params {
		d.Params = append(d.Params, api.Field{Name: "a" + strconv.Itoa(k), Type: typ})
	}
	c.Methods = append(c.Methods, d)
}

// sig makes a signature of a method that overrides none.
func (m *maker) sig(d api.Method) api.Sig {
	sig := api.Sig{Static: d.Static}
	for range m.upTo(3) {
		sig.Params = append(sig.Params, m.typ())
	}
	if !m.oneIn(3) {
		sig.Result = m.typ()
	}
	return sig
}

// collect keeps what the bodies of methods may use.
func (m *maker) collect() {
	h := hier.Of(m.src)
	m.supers, m.subs = map[string][]string{}, map[string][]string{}
	for _, c := range h.Classes {
		m.supers[c.Name], m.subs[c.Name] = hier.Supers(h, c.Name), hier.Subs(h, c.Name)
		for _, f := range c.Fields {
			m.fields = append(m.fields, member{c.Name, f})
		}
		for _, name := range []string{"m", "n", "p", "q", "main"} {
			if _, sig, found := hier.Lookup(h, c.Name, name); found {
				m.calls = append(m.calls, callee{c.Name, sig})
			}
		}
	}
}

// body makes the body of a method.
func (m *maker) body(class string, d *api.Method) {
	m.scope, m.result, m.locals, m.loops = slices.Clone(d.Params), d.Result, 0, 0
	if !d.Static {
		m.scope = append(m.scope, api.Field{Name: "this", Type: class})
	}
	d.Body = m.block(2)
	if d.Result != "" {
		d.Body = append(d.Body, m.returning())
	}
}
