package ir

import (
	"dataflow/api"
	"dataflow/hier"
)

// pair is a class, and another one or a member.
type pair struct{ class, name string }

// member is what hier finds of a member: the class that declares it, the type of a field or the signature of a method, and whether there is one.
type member[T any] struct {
	in    string
	of    T
	found bool
}

// classes answers questions about a hierarchy. Package hier answers each of them once, because the instructions of a unit ask the same ones over and over.
type classes struct {
	exists func(name string) bool
	isSub  func(p pair) bool
	field  func(p pair) member[string]
	method func(p pair) member[api.Sig]
}

func classesOf(h api.Hier) classes {
	return classes{
		exists: remember(func(name string) bool { return hier.Find(h, name) >= 0 }),
		isSub:  remember(func(p pair) bool { return hier.IsSub(h, p.class, p.name) }),
		field: remember(func(p pair) member[string] {
			in, typ, found := hier.Field(h, p.class, p.name)
			return member[string]{in, typ, found}
		}),
		method: remember(func(p pair) member[api.Sig] {
			in, sig, found := hier.Lookup(h, p.class, p.name)
			return member[api.Sig]{in, sig, found}
		}),
	}
}

// remember returns a function that calls another one once for each argument.
func remember[K comparable, V any](of func(K) V) func(K) V {
	known := map[K]V{}
	return func(key K) V {
		value, found := known[key]
		if !found {
			value = of(key)
			known[key] = value
		}
		return value
	}
}

// isType reports whether a variable may have a type.
func (c classes) isType(typ string) bool {
	return typ == "int" || typ == "null" || c.exists(typ)
}

// fits reports whether a value of one type may be assigned to a variable of another one. Neither int nor null is the name of a class in a valid hierarchy.
func (c classes) fits(from, to string) bool {
	return from == to || from == "null" && to != "int" || c.isSub(pair{from, to})
}
