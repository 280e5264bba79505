package expo

import (
	"iter"
	"math/bits"

	"stepstone/api"
	"stepstone/dyad"
)

const (
	// spare bits are computed beyond p at first: few numbers need more.
	spare = 16
	// guard bits hold what all roundings of a series, and of a squaring, come to.
	guard = 16
	// maxPrecision leaves room in layer 5 for the square of a number of so many bits, with those that halvings and guard add. It is four times what is known to be needed: for numbers next to 0, of which 1 and the number have p bits together, so that the number's square decides.
	maxPrecision = 1 << 15
)

// precisions produces those to which a power may be computed, each twice the one before: the first one that tells p bits of it will do.
func precisions(p int) iter.Seq[int] {
	return func(yield func(precision int) bool) {
		for n := p + spare; n <= maxPrecision; n *= 2 {
			if !yield(n) {
				return
			}
		}
	}
}

// settled rounds a number to p bits, by an x that is off it by less than 2^-precision of x. It is false if x does not tell what the result is: the ends of where the number may be are not rounded to the same one then.
func settled(x api.Dyad, precision, p int, up bool) (api.Dyad, bool) {
	off, _ := dyad.Scale(dyad.Of(1), dyad.Top(x)-precision)
	lo, _ := dyad.Sub(x, off)
	hi, _ := dyad.Add(x, off)
	lo, _ = dyad.Round(lo, p, up)
	hi, _ = dyad.Round(hi, p, up)
	order, _ := dyad.Cmp(lo, hi)
	return lo, order == 0
}

// power is e to the power of a, off by less than 2^-precision of it: a is halved until the series is short, and its sum squared as often. It needs an a that is not 0, of a magnitude below 2^maxTop.
//
// More halvings leave less terms; the time is least where there are about as many of both.
//
// The series is off by less than 2^(12-w) of it. A squaring doubles what is off, and is rounded by less than 2^(1-w): so the result is off by less than 2^(13-w) for each of the 2^halvings factors that it has.
func power(a api.Dyad, precision int) api.Dyad {
	small := 1 << (bits.Len(uint(precision)) / 2)
	halvings := max(0, dyad.Top(a)+small)
	w := precision + halvings + guard
	r, _ := dyad.Round(a, w, false)
	r, _ = dyad.Scale(r, -halvings)
	x := series(r, w)
	for range halvings {
		x, _ = dyad.Mul(x, x)
		x, _ = dyad.Round(x, w, false)
	}
	return x
}

// series is e to the power of r: the sum of all powers of r, each divided by the numbers up to its exponent. It needs an r that is not 0, of a magnitude of 1/16 at most.
//
// A term is rounded by less than 2^-w, and a sixteenth is left in it of what was off in the one before: so it is off by less than 2^(1-w). All those that do not matter any more are less than that together. There are less than a thousand others: so the sum is off by less than 2^(11-w).
func series(r api.Dyad, w int) api.Dyad {
	sum, term := dyad.Of(1), dyad.Of(1)
terms:
	for n := int64(1); ; n++ {
		term, _ = dyad.Mul(term, r)
		switch places := w + dyad.Top(term); {
		case places < 1:
			break terms
		default:
			term, _ = dyad.Div(term, dyad.Of(n), places, false)
			sum, _ = dyad.Add(sum, term)
		}
	}
	return sum
}
