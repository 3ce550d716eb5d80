package parse

import "dataflow/api"

// sourceLimits returns the error of a source that is not within the limits.
func sourceLimits(src api.Source) api.Errno {
	if len(src.Classes) > api.MaxClasses {
		return api.ErrTooLong
	}
	for _, c := range src.Classes {
		if e := classLimits(c); e != api.OK {
			return e
		}
	}
	return api.OK
}

// classLimits returns the error of a class that is not within the limits.
func classLimits(c api.Class) api.Errno {
	if len(c.Fields) > api.MaxFields || len(c.Methods) > api.MaxMethods {
		return api.ErrTooLong
	}
	for _, m := range c.Methods {
		if e := methodLimits(m); e != api.OK {
			return e
		}
	}
	return api.OK
}

// methodLimits returns the error of a method that is not within the limits.
func methodLimits(m api.Method) api.Errno {
	if len(m.Params) > api.MaxParams || countStmts(m.Body) > api.MaxStmts {
		return api.ErrTooLong
	}
	if stmtsDepth(m.Body) > api.MaxNest {
		return api.ErrDeep
	}
	return api.OK
}

// exprLimits returns the error of an expression that is not within the limits.
func exprLimits(e api.Expr) api.Errno {
	if exprsDepth([]api.Expr{e}) > api.MaxNest {
		return api.ErrDeep
	}
	return api.OK
}

// countStmts returns the number of statements, including those within others.
func countStmts(stmts []api.Stmt) int {
	count := len(stmts)
	for _, s := range stmts {
		count += countStmts(s.Body) + countStmts(s.Else)
	}
	return count
}

// stmtsDepth returns the greatest depth of statements, or 0 without any.
func stmtsDepth(stmts []api.Stmt) int {
	depth := 0
	for _, s := range stmts {
		depth = max(depth, 1+max(exprsDepth(s.Exprs), stmtsDepth(s.Body), stmtsDepth(s.Else)))
	}
	return depth
}

// exprsDepth returns the greatest depth of expressions, or 0 without any.
func exprsDepth(exprs []api.Expr) int {
	depth := 0
	for _, e := range exprs {
		depth = max(depth, 1+exprsDepth(e.Kids))
	}
	return depth
}
