// Package limits tells which syntax trees are too large, by the definition of layer 8: see shared/doc/08-parse.md. All layers that check trees share it.
//
// No tree is followed far beyond the limits, so that very deep ones need no memory, and even one that contains itself has an end.
package limits

import (
	"slices"

	"dataflow/api"
)

// Source returns the error of a source that is not within the limits.
func Source(src api.Source) api.Errno {
	if len(src.Classes) > api.MaxClasses {
		return api.ErrTooLong
	}
	for _, c := range src.Classes {
		if e := Class(c); e != api.OK {
			return e
		}
	}
	return api.OK
}

// Class returns the error of a class that is not within the limits.
func Class(c api.Class) api.Errno {
	if len(c.Fields) > api.MaxFields || len(c.Methods) > api.MaxMethods {
		return api.ErrTooLong
	}
	for _, m := range c.Methods {
		if e := Method(m); e != api.OK {
			return e
		}
	}
	return api.OK
}

// Method returns the error of a method that is not within the limits.
func Method(m api.Method) api.Errno {
	if len(m.Params) > api.MaxParams {
		return api.ErrTooLong
	}
	return Stmts(m.Body...)
}

// Stmts returns the error of the statements of a body that are not within the limits.
func Stmts(stmts ...api.Stmt) api.Errno {
	if room(api.MaxStmts, stmts) < 0 {
		return api.ErrTooLong
	}
	if deepStmts(stmts, api.MaxNest) {
		return api.ErrDeep
	}
	return api.OK
}

// Expr returns the error of an expression that is not within the limits.
func Expr(e api.Expr) api.Errno {
	if deepExprs([]api.Expr{e}, api.MaxNest) {
		return api.ErrDeep
	}
	return api.OK
}

// room returns how many of so many statements are left when these, with all others within them, are taken away. It is negative if there are too many.
func room(most int, stmts []api.Stmt) int {
	most -= len(stmts)
	for _, s := range stmts {
		if most < 0 {
			break
		}
		most = room(room(most, s.Body), s.Else)
	}
	return most
}

// deepStmts reports whether a statement has a greater depth than most.
func deepStmts(stmts []api.Stmt, most int) bool {
	return slices.ContainsFunc(stmts, func(s api.Stmt) bool {
		return most == 0 || deepExprs(s.Exprs, most-1) || deepStmts(s.Body, most-1) || deepStmts(s.Else, most-1)
	})
}

// deepExprs reports whether an expression has a greater depth than most.
func deepExprs(exprs []api.Expr, most int) bool {
	return slices.ContainsFunc(exprs, func(e api.Expr) bool {
		return most == 0 || deepExprs(e.Kids, most-1)
	})
}
