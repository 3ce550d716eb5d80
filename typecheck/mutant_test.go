package typecheck

import (
	"slices"

	"dataflow/api"
	"dataflow/samples"
)

// mutator changes some places of a program.
type mutator struct {
	seed  uint
	stmts []*api.Stmt
	exprs []*api.Expr
	lists []*[]api.Stmt
}

func (m *mutator) upTo(n int) int {
	m.seed = m.seed*6364136223846793005 + 1442695040888963407
	return int(m.seed >> 33 % uint(n))
}

// mutant returns a program with so many changes, other ones for each seed. Some of them have no effect.
func mutant(seed uint, changes int) api.Source {
	src := samples.Program(seed, 1+int(seed%2))
	m := &mutator{seed: seed + 77}
	for range changes {
		m.collect(&src)
		switch place := m.upTo(10); {
		case place < 4 && len(m.exprs) > 0:
			m.changeExpr(m.exprs[m.upTo(len(m.exprs))])
		case place < 7 && len(m.stmts) > 0:
			m.changeStmt(m.stmts[m.upTo(len(m.stmts))])
		case place < 9:
			m.changeList(m.lists[m.upTo(len(m.lists))])
		default:
			m.changeClass(&src.Classes[m.upTo(len(src.Classes))])
		}
	}
	return src
}

// collect finds the places of a program.
func (m *mutator) collect(src *api.Source) {
	m.stmts, m.exprs, m.lists = nil, nil, nil
	for i := range src.Classes {
		for k := range src.Classes[i].Methods {
			m.collectList(&src.Classes[i].Methods[k].Body)
		}
	}
}

func (m *mutator) collectList(list *[]api.Stmt) {
	m.lists = append(m.lists, list)
	for i := range *list {
		s := &(*list)[i]
		m.stmts = append(m.stmts, s)
		for k := range s.Exprs {
			m.collectExpr(&s.Exprs[k])
		}
		m.collectList(&s.Body)
		m.collectList(&s.Else)
	}
}

func (m *mutator) collectExpr(e *api.Expr) {
	m.exprs = append(m.exprs, e)
	for k := range e.Kids {
		m.collectExpr(&e.Kids[k])
	}
}

func (m *mutator) name() string {
	return []string{"A", "B", "C", "Main", "int", "null", "", "x0", "x1", "x2", "y1", "y2", "a0", "a1", "i1", "f", "g", "m", "n", "p", "this", "zz", "1"}[m.upTo(23)]
}

// leaf returns an expression without Kids.
func (m *mutator) leaf() api.Expr {
	return api.Expr{Kind: 1 + m.upTo(8), N: int64(m.upTo(3)), Name: m.name()}
}

func (m *mutator) changeExpr(e *api.Expr) {
	switch m.upTo(7) {
	case 0:
		e.Kind = m.upTo(12)
	case 1:
		e.N = int64(m.upTo(8)) - 1
	case 2:
		e.Name = m.name()
	case 3:
		e.Of = m.name()
	case 4:
		e.Kids = append(e.Kids, m.leaf())
	case 5:
		e.Kids = e.Kids[:len(e.Kids)-min(1, len(e.Kids))]
	case 6:
		*e = m.leaf()
	}
}

func (m *mutator) changeStmt(s *api.Stmt) {
	switch m.upTo(8) {
	case 0:
		s.Kind = m.upTo(11)
	case 1, 2:
		s.Name = m.name()
	case 3:
		s.Type = m.name()
	case 4:
		s.Exprs = append(s.Exprs, m.leaf())
	case 5:
		s.Exprs = s.Exprs[:len(s.Exprs)-min(1, len(s.Exprs))]
	case 6:
		s.Body, s.Else = s.Else, s.Body
	case 7:
		s.Else = append(s.Else, api.Stmt{Kind: api.SReturn})
	}
}

// changeList inserts, removes or exchanges statements.
func (m *mutator) changeList(list *[]api.Stmt) {
	at := m.upTo(len(*list) + 1)
	switch {
	case m.upTo(3) == 0:
		s := api.Stmt{Kind: m.upTo(11), Name: m.name(), Type: m.name(), Exprs: []api.Expr{m.leaf()}}
		*list = slices.Insert(*list, at, s)
	case at == len(*list):
	case m.upTo(3) == 0:
		*list = slices.Delete(*list, at, at+1)
	default:
		last := len(*list) - 1
		(*list)[at], (*list)[last] = (*list)[last], (*list)[at]
	}
}

func (m *mutator) changeClass(c *api.Class) {
	if len(c.Methods) == 0 || m.upTo(4) == 0 {
		c.Fields = append(c.Fields, api.Field{Name: m.name(), Type: m.name()})
		return
	}
	d := &c.Methods[m.upTo(len(c.Methods))]
	switch m.upTo(6) {
	case 0:
		c.Super = m.name()
	case 1:
		d.Name = m.name()
	case 2:
		d.Static = !d.Static
	case 3:
		d.Result = m.name()
	case 4:
		d.Params = append(d.Params, api.Field{Name: m.name(), Type: "int"})
	case 5:
		for i := range d.Params {
			d.Params[i].Name = m.name()
		}
	}
}
