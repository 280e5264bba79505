package fore_test

import (
	"math/big"

	"stepstone/api"
	"stepstone/expo"
	"stepstone/ivl"
	"stepstone/loga"
	"stepstone/root"
)

// byHand is what is known of each step, read as the chapter says it.
func byHand(x api.Tape, box []api.Ivl, p int) []api.Ivl {
	var l []api.Ivl
	for _, n := range x.Nodes {
		var a, b, out api.Ivl
		if n.Op != api.NdNum && n.Op != api.NdPar {
			a, b = l[n.A], l[n.B]
		}
		switch n.Op {
		case api.NdNum:
			out = ivl.Near(n.C, p)
		case api.NdPar:
			out = box[n.A]
		case api.NdAdd:
			out = ivl.Add(a, b, p)
		case api.NdSub:
			out = ivl.Sub(a, b, p)
		case api.NdMul:
			out = ivl.Mul(a, b, p)
			if n.A == n.B {
				out = ivl.Sqr(a, p)
			}
		case api.NdDiv:
			out = ivl.Div(a, b, p)
		case api.NdNeg:
			out = ivl.Neg(a)
		case api.NdExp:
			out = expo.Of(a, p)
		case api.NdLog:
			out = loga.Of(a, p)
		case api.NdRoot:
			out = root.Of(a, p)
		case api.NdNeed:
			out = ivl.Need(a)
		}
		l = append(l, out)
	}
	return l
}

// between is what is known of a number with rational bounds, to p bits, outwards.
func between(lo, hi *big.Rat, p int) api.Ivl {
	return some(rounded(lo, p, false), rounded(hi, p, true))
}

// extremes are the least and the greatest of some numbers.
func extremes(l ...*big.Rat) (lo, hi *big.Rat) {
	lo, hi = l[0], l[0]
	for _, x := range l {
		if x.Cmp(lo) < 0 {
			lo = x
		}
		if x.Cmp(hi) > 0 {
			hi = x
		}
	}
	return lo, hi
}

// crosswise is what is known of what do makes of a bound of a and one of b.
func crosswise(a, b api.Ivl, p int, do func(z, x, y *big.Rat) *big.Rat) api.Ivl {
	var l []*big.Rat
	for _, x := range []api.Dyad{a.Lo, a.Hi} {
		for _, y := range []api.Dyad{b.Lo, b.Hi} {
			l = append(l, do(new(big.Rat), ratOf(x), ratOf(y)))
		}
	}
	lo, hi := extremes(l...)
	return between(lo, hi, p)
}

// squares is what is known of the square of a number.
func squares(a api.Ivl, p int) api.Ivl {
	x, y := ratOf(a.Lo), ratOf(a.Hi)
	lo, hi := extremes(new(big.Rat).Mul(x, x), new(big.Rat).Mul(y, y))
	if x.Sign() <= 0 && y.Sign() >= 0 {
		lo = new(big.Rat)
	}
	return between(lo, hi, p)
}

// byRationals is what is known of a step of numbers with bounds, by rational numbers. It is false for what has no rational bounds.
func byRationals(n api.Node, a, b api.Ivl, p int) (api.Ivl, bool) {
	lo, hi := ratOf(b.Lo).Sign(), ratOf(b.Hi).Sign()
	switch {
	case n.Op == api.NdAdd:
		return crosswise(a, b, p, (*big.Rat).Add), true
	case n.Op == api.NdSub:
		return crosswise(a, b, p, (*big.Rat).Sub), true
	case n.Op == api.NdMul && n.A == n.B:
		return squares(a, p), true
	case n.Op == api.NdMul:
		return crosswise(a, b, p, (*big.Rat).Mul), true
	case n.Op == api.NdDiv && lo == 0 && hi == 0:
		return undef(), true
	case n.Op == api.NdDiv && lo <= 0 && hi >= 0:
		return unknown(), true
	case n.Op == api.NdDiv:
		return crosswise(a, b, p, (*big.Rat).Quo), true
	case n.Op == api.NdNeg:
		return some(odd(new(big.Int).Neg(bigOf(a.Hi.M)), a.Hi.E), odd(new(big.Int).Neg(bigOf(a.Lo.M)), a.Lo.E)), true
	case n.Op == api.NdNeed && ratOf(a.Lo).Sign() > 0:
		return known("0"), true
	case n.Op == api.NdNeed && ratOf(a.Hi).Sign() <= 0:
		return undef(), true
	}
	return unknown(), n.Op == api.NdNeed
}
