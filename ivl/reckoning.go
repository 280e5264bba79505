package ivl

import (
	"slices"

	"stepstone/api"
	"stepstone/dyad"
	"stepstone/frac"
	"stepstone/zint"
)

// reckoning is a computation with bounds. It is lost from the first error of a layer below on: it goes on with what came with the error, and that does not count any more. So it is enough to ask for it at the end.
type reckoning struct{ lost bool }

// computed returns what a computation comes to; nothing, and false, if it is lost.
func computed[T any](do func(r *reckoning) T) (T, bool) {
	var r reckoning
	out := do(&r)
	if r.lost {
		var none T
		return none, false
	}
	return out, true
}

func (r *reckoning) note(e api.Errno) { r.lost = r.lost || e != api.OK }

func (r *reckoning) number(a api.Dyad, e api.Errno) api.Dyad {
	r.note(e)
	return a
}

func (r *reckoning) integer(m api.Int, e api.Errno) api.Int {
	r.note(e)
	return m
}

func (r *reckoning) order(c int, e api.Errno) int {
	r.note(e)
	return c
}

// anew is the interval between two numbers, in memory of its own.
func (r *reckoning) anew(lo, hi api.Dyad) api.Ivl {
	return some(r.number(dyad.Norm(lo)), r.number(dyad.Norm(hi)))
}

func (r *reckoning) outwards(lo, hi api.Dyad, p int) api.Ivl {
	return some(r.number(dyad.Round(lo, p, false)), r.number(dyad.Round(hi, p, true)))
}

// four are what do makes of a bound of a and one of b.
func (r *reckoning) four(a, b api.Ivl, do func(x, y api.Dyad) (api.Dyad, api.Errno)) [4]api.Dyad {
	return [4]api.Dyad{
		r.number(do(a.Lo, b.Lo)), r.number(do(a.Lo, b.Hi)),
		r.number(do(a.Hi, b.Lo)), r.number(do(a.Hi, b.Hi)),
	}
}

func quotient(p int, up bool) func(x, y api.Dyad) (api.Dyad, api.Errno) {
	return func(x, y api.Dyad) (api.Dyad, api.Errno) { return dyad.Div(x, y, p, up) }
}

// against is the order of a bound and a rational number.
func (r *reckoning) against(bound api.Dyad, x api.Frac) int {
	exact, e := frac.Exact(bound)
	r.note(e)
	return r.order(frac.Cmp(exact, x))
}

// halfInUnits is half of a number divided by 2^e, rounded down: the number in units twice as great, which layer 5 has, but for the greatest e.
func (r *reckoning) halfInUnits(a api.Dyad, e int) api.Int {
	if e < api.MaxExp {
		return r.integer(dyad.Grid(a, e+1))
	}
	half, _, err := zint.Floor(r.integer(dyad.Grid(a, e)), zint.Of(2))
	return r.integer(half, err)
}

// compare needs valid numbers, as all below here do.
func compare(a, b api.Dyad) int {
	c, _ := dyad.Cmp(a, b)
	return c
}

func above(a, b api.Dyad) bool { return compare(a, b) > 0 }

func least(l ...api.Dyad) api.Dyad { return slices.MinFunc(l, compare) }

func greatest(l ...api.Dyad) api.Dyad { return slices.MaxFunc(l, compare) }
