package samples

import (
	"testing"

	"dataflow/api"
	"dataflow/format"
	"dataflow/typecheck"
)

func TestProgramsAreWellTyped(t *testing.T) {
	for seed := range uint(2000) {
		src := Program(seed, 1+int(seed%5))
		fault, e := typecheck.Program(src)
		text, f := format.Program(src)
		if e != api.OK || f != api.OK {
			t.Fatalf("seed %d: %v %d %d: %s", seed, fault, int(e), int(f), text)
		}
		if again, _ := format.Program(Program(seed, 1+int(seed%5))); again != text {
			t.Fatalf("seed %d does not always make the same program", seed)
		}
		if fault, e := typecheck.Program(Throwing(seed, 1+int(seed%5))); e != api.OK {
			t.Fatalf("seed %d, with exceptions: %v %d", seed, fault, int(e))
		}
	}
}

func TestProgramsHaveAllKinds(t *testing.T) {
	exprs, stmts := map[int]int{}, map[int]int{}
	var expr func(e api.Expr)
	expr = func(e api.Expr) {
		exprs[e.Kind]++
		for _, kid := range e.Kids {
			expr(kid)
		}
	}
	var block func(list []api.Stmt)
	block = func(list []api.Stmt) {
		for _, s := range list {
			stmts[s.Kind]++
			for _, e := range s.Exprs {
				expr(e)
			}
			block(s.Body)
			block(s.Else)
		}
	}
	for seed := range uint(300) {
		for _, c := range Program(seed, 3).Classes {
			for _, m := range c.Methods {
				block(m.Body)
			}
		}
	}
	for kind := api.EInt; kind <= api.EStatic; kind++ {
		if exprs[kind] < 300 {
			t.Errorf("kind %d of expressions occurs %d times", kind, exprs[kind])
		}
	}
	for kind := api.SVar; kind <= api.SCall; kind++ {
		if stmts[kind] < 100 {
			t.Errorf("kind %d of statements occurs %d times", kind, stmts[kind])
		}
	}
}
