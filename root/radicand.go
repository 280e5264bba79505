package root

import (
	"stepstone/api"
	"stepstone/dyad"
	"stepstone/nat"
)

// radicand is 0, or a number from 1/4 on and below 1: so its root's highest bit is that of 1/2, and p bits of it are units of 2^-p.
type radicand struct{ x api.Dyad }

// open needs a valid number that is not below 0, and writes it as a radicand times 4^half.
func open(a api.Dyad) (r radicand, half int) {
	half = (dyad.Top(a) + 1) >> 1
	// All bits of the longest integer have room behind the point, so this is valid whatever the exponent was.
	x, _ := dyad.Scale(a, -2*half)
	return radicand{x}, half
}

// units is how often 4^-p goes into the number, and whether nothing is left of it then.
func (r radicand) units(p int) (n api.Nat, all bool) {
	m, _ := dyad.Grid(r.x, -2*p)
	order, _ := dyad.Cmp(api.Dyad{M: m, E: -2 * p}, r.x)
	return m.M, order == 0
}

// directed computes a root to p bits from the units of a radicand: down is the root of the integer; up is one unit more, unless down is the root of all of the number.
func directed(up bool) func(units func(p int) (api.Nat, bool), p int) api.Dyad {
	return func(units func(p int) (api.Nat, bool), p int) api.Dyad {
		n, all := units(p)
		m, _ := nat.Root(n)
		square, _ := nat.Mul(m, m)
		exact := all && nat.Cmp(square, n) == 0
		if up && !exact {
			m, _ = nat.Add(m, nat.Of(1))
		}
		return api.Dyad{M: api.Int{M: m}, E: -p}
	}
}
