package hop

import (
	"iter"

	"stepstone/api"
	"stepstone/bits"
	"stepstone/frac"
	"stepstone/frog"
	"stepstone/gauss"
	"stepstone/nat"
	"stepstone/weigh"
	"stepstone/zint"
)

// proposal is where a transition is, by its push, and where that may lead.
type proposal struct{ from, to api.State }

// result is a proposal, and what became of it.
type result struct {
	proposal
	verdict api.Verdict
}

func (r result) place() []api.Int {
	if r.verdict == api.VdTaken {
		return r.to.Q
	}
	return r.from.Q
}

// hopped reads no bit that the result does not take. It needs a way with a Count, and a place for it in a box.
func hopped(s *bits.Source, t api.Tape, f api.Frog, box int, q []api.Int) (result, api.Errno) {
	p, e := proposed(s, t, f, q)
	if e != api.OK {
		return result{}, e
	}
	v, e := judged(s, t, f, box, p)
	if e != api.OK {
		return result{}, e
	}
	return result{p, v}, api.OK
}

func proposed(s *bits.Source, t api.Tape, f api.Frog, q []api.Int) (proposal, api.Errno) {
	p := proposal{from: api.State{Q: q}}
	for push, e := range pushes(s, f) {
		if e != api.OK {
			return proposal{}, e
		}
		p.from.P = append(p.from.P, push)
	}
	fewer, e := s.Below(nat.Of(uint64(f.Count)))
	if e != api.OK {
		return proposal{}, e
	}
	f.Count = 1 + small(fewer)
	p.to.Q, p.to.P, e = frog.Move(t, f, p.from.Q, p.from.P)
	return p, e
}

// pushes tells one for each Mass, as far as there is no error: that is the last it tells.
func pushes(s *bits.Source, f api.Frog) iter.Seq2[api.Int, api.Errno] {
	return func(yield func(api.Int, api.Errno) bool) {
		for _, mass := range f.Mass {
			push, e := drawn(s, mass, f.Grid)
			if !yield(push, e) || e != api.OK {
				return
			}
		}
	}
}

func drawn(s *bits.Source, mass api.Frac, grid int) (api.Int, api.Errno) {
	w, e := variance(mass, grid)
	if e != api.OK {
		return api.Int{}, e
	}
	return gauss.Bell(s, w)
}

// variance is a Mass in the grid's units. It needs one that is valid.
func variance(mass api.Frac, grid int) (api.Frac, api.Errno) {
	// The mass counts as it is, not as it is written.
	mass, _ = frac.Norm(mass)
	square, _ := frac.Exact(api.Dyad{M: zint.Of(1), E: 2 * grid})
	return frac.Mul(mass, square)
}

// small needs a number that is not above a Count.
func small(n api.Nat) int {
	x, _ := zint.Small(api.Int{M: n})
	return int(x)
}

func judged(s *bits.Source, t api.Tape, f api.Frog, box int, p proposal) (api.Verdict, api.Errno) {
	if !Inside(p.to.Q, f.Grid, box) {
		return api.VdOutside, api.OK
	}
	return weigh.Weigh(s, t, f, p.from, p.to)
}

// normal needs integers that are not too long.
func normal(q []api.Int) []api.Int {
	var out []api.Int
	for _, n := range q {
		n, _ = zint.Norm(n)
		out = append(out, n)
	}
	return out
}
