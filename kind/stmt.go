package kind

import "stepstone/api"

// inLoop is the block of a loop's variable.
const inLoop = -1

// rest are statements that are still to be checked, with the first so many variables.
type rest struct {
	stmts []api.Stmt
	vars  int
}

// statements are checked by a list, not by calls within calls: they may be deeper than a stack can be. The scope is cut so that loops' variables are not written behind those that are declared, which Vars hands out.
func (c *checker) statements(l []api.Stmt) {
	declared := c.vars
	c.vars = declared[:len(declared):len(declared)]
	for todo := []rest{{l, len(c.vars)}}; len(todo) > 0; {
		last := len(todo) - 1
		next := todo[last]
		c.leave(next.vars)
		if len(next.stmts) == 0 {
			todo = todo[:last]
			continue
		}
		todo[last].stmts = next.stmts[1:]
		s := next.stmts[0]
		c.statement(s)
		todo = append(todo, rest{s.Else, len(c.vars)}, rest{s.Body, len(c.vars)})
	}
	c.vars = declared
}

// statement checks one but for what is in it. That is checked with the variables that exist afterwards.
func (c *checker) statement(s api.Stmt) {
	switch s.Op {
	case api.StSet:
		c.assignment(s)
	case api.StAdd:
		c.term(s)
	case api.StDist:
		c.distributed(s)
	case api.StFor:
		c.loop(s)
	case api.StIf:
		c.choice(s)
	}
}

func (c *checker) assignment(s api.Stmt) {
	v := c.variable(s.Name, s.At)
	need(v.Block == c.block, api.ErrType, s.At)
	to := v.Type
	last := len(s.Kids) - 1
	for _, index := range s.Kids[:last] {
		to = c.element(v, s.At, c.kind(index), index.At).Type
	}
	needType(c.kind(s.Kids[last]), c.declarations[to].value, s.At)
}

func (c *checker) term(s api.Stmt) {
	need(c.block == api.BkModel, api.ErrType, s.At)
	needType(c.kind(s.Kids[0]), scalar, s.Kids[0].At)
}

func (c *checker) distributed(s api.Stmt) {
	need(c.block == api.BkModel, api.ErrType, s.At)
	d, is := c.distributions[s.Name]
	need(is, api.ErrName, s.At)
	value, args := s.Kids[0], s.Kids[1:]
	need(len(args) == d.args, api.ErrType, s.At)
	k := c.kind(value)
	needType(k, d.values(), value.At)
	for i, e := range args {
		c.argument(e, d.arguments(i, row.has(k.Type)), d.isMarked(i))
	}
}

func (c *checker) argument(e api.Expr, in types, isMarked bool) {
	k := c.kind(e)
	needType(k, in, e.At)
	if isMarked {
		needFixed(k, e.At)
	}
}

func (c *checker) loop(s api.Stmt) {
	c.needNew(s.Name, s.At)
	c.count(s.Kids[0])
	c.count(s.Kids[1])
	c.add(api.Var{Name: s.Name, Type: api.TyInt, Block: inLoop})
}

func (c *checker) choice(s api.Stmt) {
	comparison := s.Kids[0]
	c.count(comparison.Kids[0])
	c.count(comparison.Kids[1])
}
