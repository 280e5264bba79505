package root_test

import (
	"math/big"
	"testing"

	"stepstone/api"
	"stepstone/root"
)

// exact is a number above 0 by the library's integers, as great or as fine as may be.
type exact struct {
	m *big.Int
	e int
}

// valueOf needs a number that is not 0.
func valueOf(a api.Dyad) exact {
	m := bigOf(a.M)
	n := m.TrailingZeroBits()
	return exact{m.Rsh(m, n), a.E + int(n)}
}

func (x exact) squared() exact { return exact{square(x.m), 2 * x.e} }

func (x exact) compare(y exact) int {
	e := min(x.e, y.e)
	return new(big.Int).Lsh(x.m, uint(x.e-e)).Cmp(new(big.Int).Lsh(y.m, uint(y.e-e)))
}

// longRoot is the number's root with at least so many bits, and whether that is all of it. It leaves nothing of the number away.
func (x exact) longRoot(bits int) (exact, bool) {
	n := max(0, 2*bits+2-x.m.BitLen())
	if (x.e-n)%2 != 0 {
		n++
	}
	m := new(big.Int).Lsh(x.m, uint(n))
	r := new(big.Int).Sqrt(m)
	return exact{r, (x.e - n) / 2}, square(r).Cmp(m) == 0
}

// rootOf is what Root is to return, down and up: the long root, cut to p bits.
func rootOf(x exact, p int) (down, up api.Dyad) {
	r, all := x.longRoot(p + 1)
	n := max(0, r.m.BitLen()-p)
	cut := new(big.Int).Rsh(r.m, uint(n))
	down, up = odd(cut, r.e+n), odd(plus(cut, 1), r.e+n)
	if all && new(big.Int).Lsh(cut, uint(n)).Cmp(r.m) == 0 {
		up = down
	}
	return down, up
}

// roots checks both directions, for a valid number above 0, against the library's root, and against what a root to p bits is.
func roots(t *testing.T, a api.Dyad, p int) {
	t.Helper()
	x := valueOf(a)
	down, up := rootOf(x, p)
	got, e := root.Root(a, p, false)
	is(t, down, got, e, "Root", a, small(int64(p), 0))
	isNearest(t, x, valueOf(got), p, false)
	got, e = root.Root(a, p, true)
	is(t, up, got, e, "Root up", a, small(int64(p), 0))
	isNearest(t, x, valueOf(got), p, true)
}

// isNearest checks a root by its meaning alone: it has p bits at most, its square is on the side that it is to be on, and that of the next number of p bits toward the root is on the other one.
func isNearest(t *testing.T, x, r exact, p int, up bool) {
	t.Helper()
	if r.m.Sign() <= 0 || r.m.BitLen() > p {
		t.Errorf("Root of %s to %d bits has %d bits", shown(written(x.m, x.e)), p, r.m.BitLen())
		return
	}
	// In units of half the last of p bits, as the number before a power of two is so near to it.
	n := p - r.m.BitLen() + 1
	next, side := new(big.Int).Lsh(r.m, uint(n)), 1
	switch {
	case !up:
		next = plus(next, 2)
	case r.m.Cmp(big.NewInt(1)) == 0:
		next, side = plus(next, -1), -1
	default:
		next, side = plus(next, -2), -1
	}
	if r.squared().compare(x)*side > 0 || (exact{next, r.e - n}).squared().compare(x)*side <= 0 {
		t.Errorf("Root of %s to %d bits, up %v, = %s is not the nearest one", shown(written(x.m, x.e)), p, up, shown(written(r.m, r.e)))
	}
}
