package hier

import (
	"slices"

	"dataflow/api"
)

// tree is a hierarchy in which classes are found by name.
type tree struct {
	classes []api.ClassDecl
	index   map[string]int // of the first class with a name
}

func treeOf(h api.Hier) *tree {
	t := &tree{h.Classes, make(map[string]int, len(h.Classes))}
	for i, c := range slices.Backward(h.Classes) {
		t.index[c.Name] = i
	}
	return t
}

// has reports whether there is a class with a name.
func (t *tree) has(name string) bool {
	_, found := t.index[name]
	return found
}

// counts reports whether class i is the first one with its name.
func (t *tree) counts(i int) bool { return t.index[t.classes[i].Name] == i }

// super returns the index of the superclass of class i.
func (t *tree) super(i int) (up int, found bool) {
	name := t.classes[i].Super
	if name == "" {
		return 0, false
	}
	up, found = t.index[name]
	return up, found
}

// chain returns the chain of class i, from the class up, and whether it ends before a class that it already contains.
func (t *tree) chain(i int) (list []api.ClassDecl, cyclic bool) {
	seen := make([]bool, len(t.classes))
	for found := true; found; i, found = t.super(i) {
		if seen[i] {
			return list, true
		}
		seen[i] = true
		list = append(list, t.classes[i])
	}
	return list, false
}

// chainOf returns the chain of the class with a name, which is empty without one.
func (t *tree) chainOf(class string) []api.ClassDecl {
	i, found := t.index[class]
	if !found {
		return nil
	}
	list, _ := t.chain(i)
	return list
}

// subs returns the names of the classes whose chain contains a class, in some order.
func (t *tree) subs(class string) []string {
	if !t.has(class) {
		return nil
	}
	// The class is the first of the names. In a cycle it is not met again, because it is not listed as a subclass.
	below := map[string][]string{}
	for i, c := range t.classes {
		if c.Super != "" && c.Name != class && t.counts(i) {
			below[c.Super] = append(below[c.Super], c.Name)
		}
	}
	names := []string{class}
	for next := 0; next < len(names); next++ {
		names = append(names, below[names[next]]...)
	}
	return names
}

// lookup finds a method as Lookup does, but its signature shares memory with the hierarchy.
func (t *tree) lookup(class, method string) (in string, sig api.Sig, ok bool) {
	for _, c := range t.chainOf(class) {
		if k := sigIndex(c.Methods, method); k >= 0 {
			return c.Name, c.Methods[k], true
		}
	}
	return "", api.Sig{}, false
}

// declares reports whether the class with a name declares a method.
func (t *tree) declares(class, method string) bool {
	return sigIndex(t.classes[t.index[class]].Methods, method) >= 0
}

// fieldIndex returns the index of the first field with a name, or -1.
func fieldIndex(fields []api.Field, name string) int {
	return slices.IndexFunc(fields, func(f api.Field) bool { return f.Name == name })
}

// sigIndex returns the index of the first method with a name, or -1.
func sigIndex(methods []api.Sig, name string) int {
	return slices.IndexFunc(methods, func(m api.Sig) bool { return m.Name == name })
}
