package units

import (
	"testing"

	"dataflow/api"
	"dataflow/ir"
)

func TestUnitsAreValid(t *testing.T) {
	counts := map[int]int{}
	for seed := range uint(500) {
		u := Unit(seed)
		if fn, at, e := ir.Check(u); e != api.OK {
			t.Fatalf("seed %d: %d in instruction %d of function %d", seed, int(e), at, fn)
		}
		if !ir.Same(u, Unit(seed)) {
			t.Fatalf("seed %d does not always make the same unit", seed)
		}
		for _, f := range u.Funcs {
			for _, i := range f.Code {
				counts[i.Op]++
			}
		}
	}
	for op := api.INop; op <= api.IShift; op++ {
		if counts[op] < 300 {
			t.Errorf("operation %d occurs %d times", op, counts[op])
		}
	}
}
