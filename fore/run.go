package fore

import (
	"iter"

	"stepstone/api"
	"stepstone/expo"
	"stepstone/ivl"
	"stepstone/loga"
	"stepstone/root"
)

// run determines what is known of a tape's steps, one after the other, for a box and p bits.
type run struct {
	box   []api.Ivl
	p     int
	known []api.Ivl
}

// known is what is known of each step that is wanted, and nothing of the others. It needs a valid tape, a box for it, a p that is valid, and with each step that is wanted those that it has.
func known(t api.Tape, wanted func(i int) bool, box []api.Ivl, p int) []api.Ivl {
	r := &run{box: box, p: p, known: make([]api.Ivl, len(t.Nodes))}
	rules := r.rules()
	for i, n := range steps(t, wanted) {
		r.known[i] = rules[n.Op](n)
	}
	return r.known
}

// steps produces those of a tape that are wanted, in order: so what a step has comes before it.
func steps(t api.Tape, wanted func(i int) bool) iter.Seq2[int, api.Node] {
	return func(yield func(i int, n api.Node) bool) {
		for i, n := range t.Nodes {
			if wanted(i) && !yield(i, n) {
				return
			}
		}
	}
}

// rules are what each Op does.
func (r *run) rules() [api.NdNeed + 1]func(n api.Node) api.Ivl {
	return [...]func(n api.Node) api.Ivl{
		api.NdNum:  r.num,
		api.NdPar:  r.par,
		api.NdAdd:  r.add,
		api.NdSub:  r.sub,
		api.NdMul:  r.mul,
		api.NdDiv:  r.div,
		api.NdNeg:  r.neg,
		api.NdExp:  r.exp,
		api.NdLog:  r.log,
		api.NdRoot: r.root,
		api.NdNeed: r.need,
	}
}

func (r *run) num(n api.Node) api.Ivl { return ivl.Near(n.C, r.p) }

func (r *run) par(n api.Node) api.Ivl { return copied(r.box[n.A]) }

func (r *run) add(n api.Node) api.Ivl { return ivl.Add(r.known[n.A], r.known[n.B], r.p) }

func (r *run) sub(n api.Node) api.Ivl { return ivl.Sub(r.known[n.A], r.known[n.B], r.p) }

func (r *run) mul(n api.Node) api.Ivl {
	if n.A == n.B {
		return ivl.Sqr(r.known[n.A], r.p)
	}
	return ivl.Mul(r.known[n.A], r.known[n.B], r.p)
}

func (r *run) div(n api.Node) api.Ivl { return ivl.Div(r.known[n.A], r.known[n.B], r.p) }

func (r *run) neg(n api.Node) api.Ivl { return ivl.Neg(r.known[n.A]) }

func (r *run) exp(n api.Node) api.Ivl { return expo.Of(r.known[n.A], r.p) }

func (r *run) log(n api.Node) api.Ivl { return loga.Of(r.known[n.A], r.p) }

func (r *run) root(n api.Node) api.Ivl { return root.Of(r.known[n.A], r.p) }

func (r *run) need(n api.Node) api.Ivl { return ivl.Need(r.known[n.A]) }

// copied is an interval in memory of its own, as steps may not share a parameter's.
func copied(a api.Ivl) api.Ivl {
	lo, hi := a.Lo.M.M, a.Hi.M.M
	a.Lo.M.M = append(lo[:0:0], lo...)
	a.Hi.M.M = append(hi[:0:0], hi...)
	return a
}
