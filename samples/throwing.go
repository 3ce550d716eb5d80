package samples

import "dataflow/api"

// Throwing returns a program in which each method, and each statement that catches exceptions, begins with a throw that the input decides about.
func Throwing(seed uint, size int) api.Source {
	src := Program(seed, size)
	for k := range src.Classes {
		for n := range src.Classes[k].Methods {
			m := &src.Classes[k].Methods[n]
			m.Body = throwing(m.Body, src.Classes, int(seed%97)+n)
		}
	}
	return src
}

// throwing puts a throw before statements, and before those within them that may catch it.
func throwing(list []api.Stmt, classes []api.Class, class int) []api.Stmt {
	exception := api.Expr{Kind: api.ENew, Name: classes[class%len(classes)].Name}
	thrown := api.Stmt{Kind: api.SThrow, Exprs: []api.Expr{exception}}
	all := []api.Stmt{{Kind: api.SIf, Exprs: []api.Expr{{Kind: api.EInput}}, Body: []api.Stmt{thrown}}}
	for k, s := range list {
		if s.Kind == api.STry {
			s.Body = throwing(s.Body, classes, class+k)
		}
		all = append(all, s)
	}
	return all
}
