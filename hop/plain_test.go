package hop_test

import (
	"math/big"
	"slices"

	"stepstone/api"
	"stepstone/bits"
	"stepstone/frog"
	"stepstone/gauss"
	"stepstone/tape"
	"stepstone/weigh"
)

// The model: what the chapter says, step by step, with the library's numbers, by the calls of the layers that it names.

// valid is the number, or nil for what is none.
func valid(a api.Frac) *big.Rat {
	n, d := bigOf(a.N), bigOf(api.Int{M: a.D})
	if d.BitLen() == 0 || d.BitLen() > mostBits || n.BitLen() > mostBits {
		return nil
	}
	return ratio(n, d)
}

func isAbove0(a api.Frac) bool {
	x := valid(a)
	return x != nil && x.Sign() > 0
}

// isWay tells whether a way of moving is valid, and has steps.
func isWay(f api.Frog, pars int) bool {
	ok := f.Grid >= 0 && f.Grid <= mostGrid && f.Level >= 0 && f.Level <= mostLevel && f.Count >= 1 && f.Count <= mostCount
	ok = ok && isAbove0(f.Step) && len(f.Mass) == pars
	for _, m := range f.Mass {
		ok = ok && isAbove0(m)
	}
	return ok
}

func isInside(q []api.Int, grid, box int) bool {
	if grid < 0 || grid > mostGrid || box < 1 || box > mostBox {
		return false
	}
	edge := new(big.Int).Mul(big.NewInt(int64(box)), pow2(grid))
	for _, n := range q {
		if bigOf(n).Cmp(edge) > 0 || bigOf(n).Cmp(minus(edge)) < 0 {
			return false
		}
	}
	return true
}

// accepted tells the error of a call that is given these, and a source.
func accepted(t api.Tape, f api.Frog, box int, q []api.Int) api.Errno {
	switch {
	case tape.Check(t) != api.OK:
		return api.ErrTape
	case !isWay(f, t.Pars) || len(q) != t.Pars || !isInside(q, f.Grid, box):
		return api.ErrArg
	default:
		return api.OK
	}
}

// answer is what Hop tells, and what the source does then. The place is written out.
type answer struct {
	place string
	v     api.Verdict
	e     api.Errno
	read  int
	dry   bool
}

// reached are what transitions came to, and how far those came that failed.
type reached map[string]int

// failed is how a transition ends before its end.
type failed struct {
	at string
	e  api.Errno
}

func must(at string, e api.Errno) {
	if e != api.OK {
		panic(failed{at, e})
	}
}

// bellBy needs a valid Mass.
func bellBy(s *bits.Source, mass api.Frac, grid int) *big.Int {
	m := valid(mass)
	// Layer 6 refuses a product for its numbers before these are divided by what both have.
	n := new(big.Int).Mul(m.Num(), pow2(2*grid))
	if n.BitLen() > mostBits {
		panic(failed{"variance", api.ErrLong})
	}
	y, e := gauss.Bell(s, fracOf(ratio(n, m.Denom())))
	must("bell", e)
	return bigOf(y)
}

// stepsBy is how many steps are made.
func stepsBy(s *bits.Source, count int) int {
	n, e := s.Below(natOf(big.NewInt(int64(count))))
	must("steps", e)
	return int(bigOf(api.Int{M: n}).Int64()) + 1
}

// transitionBy needs what is accepted.
func transitionBy(s *bits.Source, t api.Tape, f api.Frog, box int, q []api.Int, seen reached) ([]api.Int, api.Verdict) {
	a := api.State{Q: intsOf(bigsOf(q)...)}
	for _, mass := range f.Mass {
		a.P = append(a.P, intOf(bellBy(s, mass, f.Grid)))
	}
	f.Count = stepsBy(s, f.Count)
	to, by, e := frog.Move(t, f, a.Q, a.P)
	must("move", e)
	if !isInside(to, f.Grid, box) {
		seen["outside"]++
		return a.Q, api.VdOutside
	}
	v, e := weigh.Weigh(s, t, f, a, api.State{Q: to, P: by})
	must("weigh", e)
	if v == api.VdTaken {
		seen["taken"]++
		return to, v
	}
	seen["left"]++
	return a.Q, v
}

// hopBy is what a transition by a source's copy comes to; one that fails has read nothing, but for one for which there are not enough bits.
func hopBy(s *bits.Source, t api.Tape, f api.Frog, box int, q []api.Int, seen reached) (got answer) {
	if e := accepted(t, f, box, q); e != api.OK {
		return answer{e: e, read: s.Read(), dry: s.Dry()}
	}
	c := s.Copy()
	defer func() {
		if r := recover(); r != nil {
			end := r.(failed)
			seen[end.at]++
			got = answer{e: end.e}
			if end.e != api.ErrDry {
				c = s
			}
		}
		got.read, got.dry = c.Read(), c.Dry()
	}()
	place, v := transitionBy(c, t, f, box, q, seen)
	return answer{place: shownInts(place), v: v}
}

func isNormalList(l []api.Int) bool {
	return !slices.ContainsFunc(l, func(n api.Int) bool { return !isNormal(n) })
}
