package back

import (
	"iter"
	"slices"

	"stepstone/api"
	"stepstone/ivl"
	"stepstone/tape"
)

// run determines the shares of a tape's steps, one after the other, from what is known of them.
type run struct {
	vals   []api.Ivl
	p      int
	shares []api.Ivl
}

// rule lets the shares grow of what a step has, by its own share and what is known of it.
type rule func(n api.Node, g, v api.Ivl)

// sharesOf needs a valid tape, a valid interval for each of its steps, and a p that is valid.
func sharesOf(t api.Tape, vals []api.Ivl, p int) []api.Ivl {
	r := &run{vals: vals, p: p, shares: slices.Repeat([]api.Ivl{ivl.Of(0)}, len(t.Nodes))}
	r.shares[t.Out] = ivl.Of(1)
	rules := r.rules()
	for i, n := range liveBackwards(t) {
		if pass, ok := rules[n.Op]; ok {
			pass(n, r.shares[i], vals[i])
		}
	}
	return r.shares
}

// liveBackwards produces a tape's live steps from the last one: so what has a step comes before it, and its share has grown to the end.
func liveBackwards(t api.Tape) iter.Seq2[int, api.Node] {
	return func(yield func(i int, n api.Node) bool) {
		// What is not live has no share: but 0 times what is not known would not be 0.
		live := tape.Live(t)
		for i, n := range slices.Backward(t.Nodes) {
			if live[i] && !yield(i, n) {
				return
			}
		}
	}
}

// rules are what the Ops pass on. NdNum and NdPar have no steps, and NdNeed is 0 wherever it has a value.
func (r *run) rules() map[uint8]rule {
	a := func(n api.Node) api.Ivl { return r.vals[n.A] }
	b := func(n api.Node) api.Ivl { return r.vals[n.B] }
	mul := func(x, y api.Ivl) api.Ivl { return ivl.Mul(x, y, r.p) }
	div := func(x, y api.Ivl) api.Ivl { return ivl.Div(x, y, r.p) }
	return map[uint8]rule{
		api.NdAdd:  func(n api.Node, g, v api.Ivl) { r.grow(n, g, g) },
		api.NdSub:  func(n api.Node, g, v api.Ivl) { r.grow(n, g, ivl.Neg(g)) },
		api.NdMul:  func(n api.Node, g, v api.Ivl) { r.grow(n, mul(g, b(n)), mul(g, a(n))) },
		api.NdDiv:  func(n api.Node, g, v api.Ivl) { r.grow(n, div(g, b(n)), ivl.Neg(div(mul(g, v), b(n)))) },
		api.NdNeg:  func(n api.Node, g, v api.Ivl) { r.grow(n, ivl.Neg(g)) },
		api.NdExp:  func(n api.Node, g, v api.Ivl) { r.grow(n, mul(g, v)) },
		api.NdLog:  func(n api.Node, g, v api.Ivl) { r.grow(n, div(g, a(n))) },
		api.NdRoot: func(n api.Node, g, v api.Ivl) { r.grow(n, div(g, ivl.Add(v, v, r.p))) },
	}
}

// grow lets A's share grow, and then B's, as both may be one step.
func (r *run) grow(n api.Node, by ...api.Ivl) {
	steps := [...]int{n.A, n.B}
	for k, x := range by {
		i := steps[k]
		r.shares[i] = ivl.Add(r.shares[i], x, r.p)
	}
}
