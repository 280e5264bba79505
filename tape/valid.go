package tape

import (
	"slices"

	"stepstone/api"
	"stepstone/frac"
)

// isValid need not ask for a node: without one Out is no index.
func isValid(t api.Tape) bool {
	return 0 <= t.Pars && t.Pars <= api.MaxPars && areSteps(t.Nodes, t.Pars) && exist(len(t.Nodes), t.Out, t.Tells)
}

func areSteps(l []api.Node, pars int) bool {
	if len(l) > api.MaxNodes {
		return false
	}
	for i, n := range l {
		if !isStep(n, i, pars) {
			return false
		}
	}
	return true
}

// isStep tells whether a node is valid behind so many steps, with so many parameters.
func isStep(n api.Node, steps, pars int) bool {
	is := func(f field, x int) bool {
		switch f {
		case step:
			return isIndex(x, steps)
		case parameter:
			return isIndex(x, pars)
		}
		return x == 0
	}
	f := fieldsOf(n.Op)
	return f != (fields{}) && is(f.a, n.A) && is(f.b, n.B) && isWritten(f.c, n.C)
}

func isWritten(f field, c api.Frac) bool {
	if f == number {
		return isNormal(c)
	}
	return isSame(c, api.Frac{})
}

func isNormal(c api.Frac) bool {
	n, e := frac.Norm(c)
	return e == api.OK && isSame(n, c)
}

// isSame tells whether two numbers are written in the same way.
func isSame(a, b api.Frac) bool {
	return a.N.Neg == b.N.Neg && slices.Equal(a.N.M, b.N.M) && slices.Equal(a.D, b.D)
}

// exist tells whether Out, and all that are told, are among so many steps.
func exist(steps, out int, tells []api.Tell) bool {
	for _, t := range tells {
		if !isIndex(t.At, steps) {
			return false
		}
	}
	return isIndex(out, steps)
}

func isIndex(i, n int) bool { return 0 <= i && i < n }
