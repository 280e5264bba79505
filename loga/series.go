package loga

import (
	"iter"

	"stepstone/api"
	"stepstone/dyad"
)

// shrinking makes of a number's power that with an exponent greater by 2, to so many bits.
type shrinking func(power api.Dyad, bits int) api.Dyad

// inverseOf is the inverse hyperbolic tangent of z, which has w bits at most.
func inverseOf(z api.Dyad, w int) api.Dyad {
	square, _ := dyad.Mul(z, z)
	square, _ = dyad.Round(square, w, false)
	return series(z, w, func(power api.Dyad, bits int) api.Dyad {
		out, _ := dyad.Mul(power, square)
		out, _ = dyad.Round(out, bits, false)
		return out
	})
}

// inverseOfPart is the inverse hyperbolic tangent of 1/k: it takes less time to divide by a small number than to multiply by one of w bits.
func inverseOfPart(k int64, w int) api.Dyad {
	z, _ := dyad.Div(dyad.Of(1), dyad.Of(k), w, false)
	return series(z, w, func(power api.Dyad, bits int) api.Dyad {
		out, _ := dyad.Div(power, dyad.Of(k*k), bits, false)
		return out
	})
}

// series is the sum of the odd powers of z, each divided by its exponent: the inverse hyperbolic tangent of z. It needs a z of a magnitude of 1/20 at most, or 0.
//
// A power is rounded by less than 2^lowest, and next to nothing is left in it of what was off in the one before; its quotient is rounded by as much again: so a term is off by less than 3/2 of that. Less than 2^12 terms matter, and all others are less than three times 2^lowest together. So the sum is off by less than 2^(13+lowest), which is less than 2^(14-w) of it.
func series(z api.Dyad, w int, shrunk shrinking) api.Dyad {
	var sum api.Dyad
	lowest := dyad.Top(z) - w
adding:
	for term := range terms(z, lowest, shrunk) {
		switch {
		case dyad.Sign(term) == 0, dyad.Top(term) < lowest:
			break adding
		default:
			sum, _ = dyad.Add(sum, term)
		}
	}
	return sum
}

// terms produces the odd powers of z, each divided by its exponent, to the bits from 2^lowest on. There is no last one.
func terms(z api.Dyad, lowest int, shrunk shrinking) iter.Seq[api.Dyad] {
	return func(yield func(term api.Dyad) bool) {
		power := z
		for n := int64(1); ; n += 2 {
			bits := max(1, dyad.Top(power)-lowest)
			term, _ := dyad.Div(power, dyad.Of(n), bits, false)
			if !yield(term) {
				return
			}
			power = shrunk(power, bits)
		}
	}
}
