package ivl_test

import (
	"math/big"
	"math/rand/v2"
	"slices"
	"testing"

	"stepstone/api"
	"stepstone/ivl"
)

// between is the number that is so many sevenths and so on of the way from Lo to Hi.
func between(a api.Ivl, share *big.Rat) *big.Rat {
	lo, hi := ratOf(a.Lo), ratOf(a.Hi)
	way := hi.Sub(hi, lo)
	return lo.Add(lo, way.Mul(way, share))
}

// points are numbers in an interval: both bounds, and others, most of which are not dyadic; 0, if it is in it.
func points(a api.Ivl) []*big.Rat {
	if a.Kind != api.IvSome {
		return []*big.Rat{new(big.Rat), big.NewRat(-7, 3), big.NewRat(1, 1000)}
	}
	var l []*big.Rat
	for _, share := range []*big.Rat{new(big.Rat), big.NewRat(1, 1), big.NewRat(1, 2), big.NewRat(2, 7), big.NewRat(1, 1000001)} {
		l = append(l, between(a, share))
	}
	if spanOf(a).hasZero() {
		l = append(l, new(big.Rat))
	}
	return l
}

func contains(t *testing.T, out api.Ivl, x *big.Rat, what string, of ...api.Ivl) {
	t.Helper()
	switch {
	case out.Kind == api.IvSome && (ratOf(out.Lo).Cmp(x) > 0 || ratOf(out.Hi).Cmp(x) < 0), out.Kind == api.IvUndef:
		t.Errorf("%s of %s = %s does not contain %s", what, shown(of...), shown(out), x.RatString())
	case !ivl.Has(out, fracOfRat(x)):
		t.Errorf("Has of %s, which is %s of %s, and %s: false", shown(out), what, shown(of...), x.RatString())
	}
}

// contain checks what follows for a number in a, and one in b.
func contain(t *testing.T, a, b api.Ivl, p int) {
	t.Helper()
	sum, difference, product, quotient := ivl.Add(a, b, p), ivl.Sub(a, b, p), ivl.Mul(a, b, p), ivl.Div(a, b, p)
	for _, x := range points(a) {
		for _, y := range points(b) {
			contains(t, sum, new(big.Rat).Add(x, y), "Add", a, b)
			contains(t, difference, new(big.Rat).Sub(x, y), "Sub", a, b)
			contains(t, product, new(big.Rat).Mul(x, y), "Mul", a, b)
			if y.Sign() != 0 {
				contains(t, quotient, new(big.Rat).Quo(x, y), "Div", a, b)
			}
		}
	}
}

// containAlone checks what follows for a number in a.
func containAlone(t *testing.T, a api.Ivl, p int) {
	t.Helper()
	turned, square, need := ivl.Neg(a), ivl.Sqr(a, p), ivl.Need(a)
	for _, x := range points(a) {
		contains(t, turned, new(big.Rat).Neg(x), "Neg", a)
		contains(t, square, new(big.Rat).Mul(x, x), "Sqr", a)
		contains(t, ivl.Both(a, ivl.Near(fracOfRat(x), p)), x, "Both", a)
		contains(t, ivl.Near(fracOfRat(x), p), x, "Near of a number")
		if x.Sign() > 0 {
			contains(t, need, new(big.Rat), "Need", a)
		}
	}
}

// P7.8: each call contains what the operation comes to, for all numbers in its arguments, and is not IvUndef then.
func TestContains(t *testing.T) {
	l := append(ordinary(), unknown())
	for i, a := range l {
		for _, p := range []int{1, 3, 64} {
			containAlone(t, a, p)
		}
		for j, b := range l {
			contain(t, a, b, []int{1, 2, 3, 64}[(i+j)%4])
		}
	}
	g := rand.New(rand.NewPCG(7, 8))
	for range 2000 {
		a, b, p := anyKnown(g), anyKnown(g), 1+g.IntN(100)
		contain(t, a, b, p)
		containAlone(t, a, p)
	}
}

func dyadOfRat(x *big.Rat) api.Dyad { return odd(x.Num(), 1-x.Denom().BitLen()) }

// part is from so many sixteenths of the way from Lo to Hi to so many.
func part(a api.Ivl, from, to int64) api.Ivl {
	if a.Kind != api.IvSome {
		return a
	}
	return some(dyadOfRat(between(a, big.NewRat(from, 16))), dyadOfRat(between(a, big.NewRat(to, 16))))
}

func within(t *testing.T, inner, outer api.Ivl, what string, of ...api.Ivl) {
	t.Helper()
	if inner.Kind != api.IvSome || outer.Kind != api.IvSome {
		return
	}
	if value(outer.Lo).Cmp(value(inner.Lo)) > 0 || value(inner.Hi).Cmp(value(outer.Hi)) > 0 {
		t.Errorf("%s of parts of %s = %s is not within %s", what, shown(of...), shown(inner), shown(outer))
	}
}

// allWithin checks all calls for parts x and y of a and b. What has bounds for the whole has some for parts of it, but for Both.
func allWithin(t *testing.T, x, a, y, b api.Ivl, p int) {
	t.Helper()
	for _, c := range calls() {
		inner, outer := c.do(x, y, p), c.do(a, b, p)
		within(t, inner, outer, c.name, a, b)
		if outer.Kind == api.IvSome && inner.Kind != api.IvSome {
			t.Errorf("%s of %s = %s, but of parts of them, %s, = %s", c.name, shown(a, b), shown(outer), shown(x, y), shown(inner))
		}
	}
	within(t, ivl.Neg(x), ivl.Neg(a), "Neg", a)
	within(t, ivl.Need(x), ivl.Need(a), "Need", a)
	within(t, ivl.Both(x, y), ivl.Both(a, b), "Both", a, b)
}

// P7.9: for parts, each call is within what it is for the whole.
func TestWithin(t *testing.T) {
	g := rand.New(rand.NewPCG(7, 9))
	anyPart := func(a api.Ivl) api.Ivl {
		from := g.Int64N(17)
		return part(a, from, from+g.Int64N(17-from))
	}
	l := append(ordinary(), unknown())
	for i, a := range l {
		for j, b := range l {
			p := []int{1, 2, 3, 5, 64}[(i+2*j)%5]
			allWithin(t, part(a, 0, 8), a, b, b, p)
			allWithin(t, a, a, part(b, 8, 16), b, p)
			allWithin(t, anyPart(a), a, anyPart(b), b, p)
			allWithin(t, part(a, 5, 5), a, part(b, 16, 16), b, p)
		}
	}
	for range 5000 {
		a, b := anyKnown(g), anyKnown(g)
		allWithin(t, anyPart(a), a, anyPart(b), b, 1+g.IntN(100))
	}
}

// P7.8, P7.9, where exponents are at the bounds: a part may be known where the whole is not, so only both together are held against each other.
func TestWithinExtremes(t *testing.T) {
	for _, a := range slices.Concat(extreme(), knowns("1 2", "-1 1")) {
		for _, b := range slices.Concat(extreme(), knowns("1 2", "-1 1")) {
			for _, x := range []api.Ivl{some(a.Lo, a.Lo), some(a.Hi, a.Hi), a} {
				for _, c := range calls() {
					within(t, c.do(x, b, 3), c.do(a, b, 3), c.name, a, b)
				}
				within(t, ivl.Both(x, b), ivl.Both(a, b), "Both", a, b)
			}
		}
	}
}
