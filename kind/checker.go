package kind

import "stepstone/api"

// checker goes through a program, or an expression. The first fault ends that by a panic.
type checker struct {
	scope
	block         int
	operations    map[uint8]rules
	functions     map[string]rules
	declarations  map[uint8]parts
	distributions map[string]distribution
}

func newChecker(vars []api.Var) *checker {
	return &checker{
		scope:         newScope(vars),
		operations:    operations(),
		functions:     functions(),
		declarations:  declarations(),
		distributions: distributions(),
	}
}

// need ends the checking, unless what it must be is true.
func need(is bool, e api.Errno, at int) {
	if !is {
		panic(api.Fault{E: e, At: at})
	}
}

func needType(k api.Kind, in types, at int) { need(in.has(k.Type), api.ErrType, at) }

func needFixed(k api.Kind, at int) { need(!k.Par, api.ErrLevel, at) }

// needCount is for what something is chosen, counted or sized by.
func needCount(k api.Kind, at int) {
	needType(k, integer, at)
	needFixed(k, at)
}

// program returns all variables that are declared in it.
func (c *checker) program(p api.Prog) []api.Var {
	for i, b := range p.Blocks {
		c.block = i
		for _, d := range b.Decls {
			c.declaration(d)
		}
		c.statements(b.Stmts)
	}
	return c.vars
}
