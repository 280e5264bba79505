package frac

import (
	"stepstone/api"
	"stepstone/dyad"
	"stepstone/nat"
	"stepstone/zint"
)

func natural(m api.Nat) api.Int { return api.Int{M: m} }

// turned is 0 minus the number, in the same memory.
func turned(a api.Frac) api.Frac {
	a.N.Neg = !a.N.Neg
	return a
}

// product goes from the first number to the last one: no product on the way may be too long.
func product(l ...api.Int) api.Int {
	out := zint.Of(1)
	for _, n := range l {
		out = must(zint.Mul(out, n))
	}
	return out
}

// crosswise are both numbers in one unit; divided by each other they are the quotient.
func crosswise(a, b api.Frac) (api.Int, api.Int) {
	return product(a.N, natural(b.D)), product(b.N, natural(a.D))
}

func sum(a, b api.Frac) api.Frac {
	m, n := crosswise(a, b)
	return reduced(must(zint.Add(m, n)), product(natural(a.D), natural(b.D)))
}

// reduced is n divided by d, normal, in new memory. It needs a d that is not 0.
func reduced(n, d api.Int) api.Frac {
	common := must(nat.Gcd(n.M, d.M))
	return api.Frac{
		N: api.Int{Neg: zint.Sign(n)*zint.Sign(d) < 0, M: quotient(n.M, common)},
		D: quotient(d.M, common),
	}
}

func quotient(a, b api.Nat) api.Nat {
	q, _, e := nat.Div(a, b)
	return must(q, e)
}

// exact needs a valid number. An odd integer has no divisor in common with a power of two.
func exact(a api.Dyad) api.Frac {
	a, e := dyad.Norm(a)
	if e != api.OK {
		// A valid number has no normal form if, made odd, its exponent is beyond the bounds: then it is a far too great integer.
		panic(api.ErrLong)
	}
	return api.Frac{
		N: must(zint.Shl(a.M, max(a.E, 0))),
		D: must(nat.Shl(nat.Of(1), max(-a.E, 0))),
	}
}
