package weigh

import (
	"slices"

	"stepstone/api"
	"stepstone/dyad"
	"stepstone/fore"
	"stepstone/frac"
	"stepstone/frog"
	"stepstone/ivl"
	"stepstone/zint"
)

// lowest: e to the power of a gain that is not above it is known as well as it has to be, however low the gain is.
const lowest = -1000

// sure is for calls that return no error, or beside one a number that is none: so is whatever is computed of that.
func sure[T any](x T, _ api.Errno) T { return x }

// isNumber needs a result of layer 6.
func isNumber(x api.Frac) bool { return len(x.D) > 0 }

// weight is the push's, or no number if one on the way to it is too long. It needs a Mass for each integer.
func weight(f api.Frog, p []api.Int) api.Frac {
	sum := frac.Of(0)
	for i := 0; i < len(p) && isNumber(sum); i++ {
		x := sure(frac.Exact(api.Dyad{M: p[i], E: -f.Grid}))
		// The mass counts as it is, not as it is written.
		twice := sure(frac.Mul(frac.Of(2), sure(frac.Norm(f.Mass[i]))))
		sum = sure(frac.Add(sum, sure(frac.Div(sure(frac.Mul(x, x)), twice))))
	}
	return sum
}

// comparison is what the gain of a proposal is computed of, at any level.
type comparison struct {
	t        api.Tape
	from, to []api.Dyad
	// stays: it is the same place, so Out does not change.
	stays bool
	// lighter is by how much the proposal's push weighs less; no number if layer 6 can't compute it.
	lighter api.Frac
}

func compared(t api.Tape, f api.Frog, a, b api.State) comparison {
	return comparison{
		t:       t,
		from:    frog.Point(a.Q, f.Grid),
		to:      frog.Point(b.Q, f.Grid),
		stays:   slices.EqualFunc(a.Q, b.Q, func(x, y api.Int) bool { return zint.Cmp(x, y) == 0 }),
		lighter: sure(frac.Sub(weight(f, a.P), weight(f, b.P))),
	}
}

func (c comparison) gain(level, p int) api.Ivl {
	return ivl.Add(c.growth(level, p), ivl.Near(c.lighter, p), p)
}

// growth is what is known of how much Out grows.
func (c comparison) growth(level, p int) api.Ivl {
	from := sure(fore.At(c.t, c.from, level))
	switch {
	case !c.stays:
		return ivl.Sub(sure(fore.At(c.t, c.to, level)), from, p)
	case from.Kind == api.IvSome:
		return ivl.Of(0)
	default:
		return from
	}
}

func isUpTo(x, most api.Dyad) bool { return sure(dyad.Cmp(x, most)) <= 0 }
