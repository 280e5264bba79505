package loga

import (
	"iter"

	"stepstone/api"
	"stepstone/dyad"
)

const (
	// spare bits are computed beyond p at first: few numbers need more.
	spare = 12
	// guard bits hold what all roundings of a logarithm come to.
	guard = 20
	// maxPrecision leaves room in layer 5 for the product of two numbers of so many bits, with those that guard adds. It is four times what is known to be needed: for numbers next to 1, of which the distance from 1 and half of its square have p bits together, so that its third power decides.
	maxPrecision = 1 << 15
)

// bounds produces numbers that the logarithm is between: the first ones, and others that are twice as precise as those before.
func bounds(a api.Dyad, p int) iter.Seq2[api.Dyad, api.Dyad] {
	return func(yield func(lo, hi api.Dyad) bool) {
		for precision := p + spare; precision <= maxPrecision; precision *= 2 {
			x := logarithm(a, precision)
			off, _ := dyad.Scale(dyad.Of(1), dyad.Top(x)-precision)
			lo, _ := dyad.Sub(x, off)
			hi, _ := dyad.Add(x, off)
			if !yield(lo, hi) {
				return
			}
		}
	}
}

// logarithm is that of a, off by less than 2^-precision of it. It needs an a above 0 that is not 1.
//
// The logarithm of x is twice the inverse hyperbolic tangent of (x-1)/(x+1): so that of 27/25 is told by 1/26, that of 2401/2400 by 1/4801, that of 4375/4374 by 1/8749. The first to the power of 9, divided by the second, times the third to the power of 4, is 2: with these, steps of 27/25 cost next to nothing where twos are split off, and leave a rest whose series is short.
//
// Each inverse is off by less than 2^(15-w) of it. All of them together, whatever their signs are, come to less than four times their sum: it is worst where there is a single step, of which the rest takes back about half. So the result is off by less than 2^(17-w) of it.
func logarithm(a api.Dyad, precision int) api.Dyad {
	w := precision + guard
	twos, m := split(a)
	steps := stepsTo(m)
	half := inverseOf(tangent(m, steps, w), w)
	for _, part := range [...]struct{ times, k int64 }{{9*twos + steps, 26}, {-twos, 4801}, {4 * twos, 8749}} {
		if part.times != 0 {
			x, _ := dyad.Mul(inverseOfPart(part.k, w), dyad.Of(part.times))
			half, _ = dyad.Add(half, x)
		}
	}
	out, _ := dyad.Scale(half, 1)
	return out
}

// split writes a as 2^twos times an m from 3/4 on and below 3/2: where a is next to 1 nothing is split off, so that nothing of what is small there is lost.
func split(a api.Dyad) (twos int64, m api.Dyad) {
	without := func(twos int) api.Dyad {
		m, _ := dyad.Scale(a, -twos)
		return m
	}
	top := dyad.Top(a)
	limit, _ := dyad.Scale(dyad.Of(3), -2)
	if order, _ := dyad.Cmp(without(top), limit); order < 0 {
		top--
	}
	return int64(top), without(top)
}

// stepsTo is how many factors of 27/25 come nearest to m: 26 times (m-1)/(m+1). It may be off a little, but not where m is next to 1: there it is 0.
func stepsTo(m api.Dyad) int64 {
	units, _ := dyad.Grid(m, -9)
	n := int64(units.M[0])
	// With 9/2 more it is above 0, where Go rounds a quotient down: so what is left is the nearest integer.
	return (26*(n-512)+(n+512)*9/2)/(n+512) - 4
}

// tangent is (x-1)/(x+1) to w bits, for the x that is left of m without its steps.
func tangent(m api.Dyad, steps int64, w int) api.Dyad {
	numerator, denominator := int64(25), int64(27)
	if steps < 0 {
		numerator, denominator, steps = denominator, numerator, -steps
	}
	x, one := m, dyad.Of(1)
	for range steps {
		x, _ = dyad.Mul(x, dyad.Of(numerator))
		one, _ = dyad.Mul(one, dyad.Of(denominator))
	}
	less, _ := dyad.Sub(x, one)
	more, _ := dyad.Add(x, one)
	z, _ := dyad.Div(less, more, w, false)
	return z
}
