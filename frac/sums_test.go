package frac_test

import (
	"math/big"
	"math/rand/v2"
	"slices"
	"testing"

	"stepstone/api"
	"stepstone/frac"
)

type pair struct{ a, b api.Frac }

// longPairs are normal numbers whose products, crosswise or not, or the sum of these, have 2048 limbs, or one bit more, or far more.
func longPairs() []pair {
	full, highest, half := allOnes(maxBits), pow2(maxBits-1), maxBits/2
	one, two, three := big.NewInt(1), big.NewInt(2), big.NewInt(3)
	l := []pair{
		{fracOf(full, one), fracOf(one, one)}, {fracOf(full, one), fracOf(one, two)}, {fracOf(full, one), fracOf(two, one)}, {fracOf(full, one), fracOf(one, full)},
		{fracOf(one, full), fracOf(one, one)}, {fracOf(one, full), fracOf(one, two)}, {fracOf(one, full), fracOf(two, one)}, {fracOf(one, full), fracOf(one, full)},
		{fracOf(plus(full, -1), one), fracOf(one, one)}, {fracOf(plus(full, -2), two), fracOf(one, two)}, {fracOf(highest, one), fracOf(highest, one)}, {fracOf(highest, one), fracOf(plus(highest, -1), one)},
		{fracOf(highest, three), fracOf(one, one)}, {fracOf(plus(pow2(maxBits-2), -1), one), fracOf(two, three)}, {fracOf(pow2(maxBits-2), one), fracOf(one, three)},
		{fracOf(full, highest), fracOf(one, one)}, {fracOf(full, highest), fracOf(highest, full)}, {fracOf(full, pow2(maxBits-2)), fracOf(three, one)},
		{fracOf(highest, full), fracOf(full, highest)}, {fracOf(one, highest), fracOf(one, one)}, {fracOf(three, highest), fracOf(one, highest)}, {fracOf(one, highest), fracOf(highest, one)},
		{fracOf(plus(highest, -1), highest), fracOf(one, one)}, {fracOf(plus(highest, 1), highest), fracOf(one, one)}, {fracOf(plus(highest, 1), one), fracOf(one, one)},
	}
	for _, d := range []int{-1, 0, 1} {
		x, y := allOnes(half), plus(pow2(half+d), 1)
		p, q := pow2(half), pow2(half-1+d)
		l = append(l, pair{fracOf(x, one), fracOf(one, y)}, pair{fracOf(one, x), fracOf(one, y)}, pair{fracOf(x, one), fracOf(y, one)}, pair{fracOf(one, y), fracOf(x, one)})
		l = append(l, pair{fracOf(p, one), fracOf(q, one)}, pair{fracOf(one, p), fracOf(one, q)}, pair{fracOf(p, one), fracOf(one, q)}, pair{fracOf(one, p), fracOf(q, one)}, pair{fracOf(x, p), fracOf(y, q)}, pair{fracOf(three, p), fracOf(y, q)})
		// What is divided out at the end does not help: both products are too long, or not, ahead of that.
		l = append(l, pair{fracOf(p, three), fracOf(q, big.NewInt(5))}, pair{fracOf(p, plus(q, 1)), fracOf(plus(q, 1), p)}, pair{fracOf(three, p), fracOf(big.NewInt(5), q)}, pair{fracOf(p, one), fracOf(one, p)})
	}
	return l
}

func sumParts(a, b api.Frac) []*big.Int {
	l := crosswise(a, b)
	return append(l, new(big.Int).Add(l[0], l[1]), times(bigOfNat(a.D), bigOfNat(b.D)))
}

func differenceParts(a, b api.Frac) []*big.Int { return sumParts(a, turned(b)) }

func productParts(a, b api.Frac) []*big.Int {
	return []*big.Int{times(bigOf(a.N), bigOf(b.N)), times(bigOfNat(a.D), bigOfNat(b.D))}
}

// computes checks the sum, the difference, the product and the quotient.
func computes(t *testing.T, a, b api.Frac) {
	t.Helper()
	x, y := valueOf(a), valueOf(b)
	got, e := frac.Add(a, b)
	isComputed(t, new(big.Rat).Add(x, y), got, e, sumParts, "Add", a, b)
	got, e = frac.Sub(a, b)
	isComputed(t, new(big.Rat).Sub(x, y), got, e, differenceParts, "Sub", a, b)
	got, e = frac.Mul(a, b)
	isComputed(t, new(big.Rat).Mul(x, y), got, e, productParts, "Mul", a, b)
	got, e = frac.Div(a, b)
	if y.Sign() == 0 {
		fails(t, api.ErrArg, got, e, "Div", a, b)
		return
	}
	isComputed(t, new(big.Rat).Quo(x, y), got, e, crosswise, "Div", a, b)
}

func computesAllSigns(t *testing.T, a, b api.Frac) {
	t.Helper()
	for _, x := range []api.Frac{a, turned(a)} {
		for _, y := range []api.Frac{b, turned(b)} {
			computes(t, x, y)
			computes(t, y, x)
		}
	}
}

// P6.2: some by hand, of all signs, to whole numbers and to 0.
func TestByHand(t *testing.T) {
	for _, c := range []struct {
		a, b                               api.Frac
		sum, difference, product, quotient *big.Rat
	}{
		{small(1, 2), small(1, 3), big.NewRat(5, 6), big.NewRat(1, 6), big.NewRat(1, 6), big.NewRat(3, 2)},
		{small(-1, 2), small(1, 3), big.NewRat(-1, 6), big.NewRat(-5, 6), big.NewRat(-1, 6), big.NewRat(-3, 2)},
		{small(-2, 4), small(-2, 6), big.NewRat(-5, 6), big.NewRat(-1, 6), big.NewRat(1, 6), big.NewRat(3, 2)},
		{small(1, 6), small(-5, 3), big.NewRat(-3, 2), big.NewRat(11, 6), big.NewRat(-5, 18), big.NewRat(-1, 10)},
		{small(3, 4), small(3, 4), big.NewRat(3, 2), new(big.Rat), big.NewRat(9, 16), big.NewRat(1, 1)},
		{small(3, 4), small(-6, 8), new(big.Rat), big.NewRat(3, 2), big.NewRat(-9, 16), big.NewRat(-1, 1)},
		{small(0, 9), small(-7, 2), big.NewRat(-7, 2), big.NewRat(7, 2), new(big.Rat), new(big.Rat)},
		{small(5, 1), small(3, 1), big.NewRat(8, 1), big.NewRat(2, 1), big.NewRat(15, 1), big.NewRat(5, 3)},
		{small(2, 3), small(3, 2), big.NewRat(13, 6), big.NewRat(-5, 6), big.NewRat(1, 1), big.NewRat(4, 9)},
	} {
		got, e := frac.Add(c.a, c.b)
		isFrac(t, c.sum, got, e, "Add", c.a, c.b)
		got, e = frac.Sub(c.a, c.b)
		isFrac(t, c.difference, got, e, "Sub", c.a, c.b)
		got, e = frac.Mul(c.a, c.b)
		isFrac(t, c.product, got, e, "Mul", c.a, c.b)
		got, e = frac.Div(c.a, c.b)
		isFrac(t, c.quotient, got, e, "Div", c.a, c.b)
	}
}

// P6.2: all pairs of the numbers, however they are written, 0 among them.
func TestComputes(t *testing.T) {
	l := slices.Concat(someFracs(), zeros()[:24])
	for _, a := range l {
		for _, b := range l {
			computes(t, a, b)
		}
	}
	anyPairs(63, 10000, 6, func(a, b api.Frac) { computes(t, a, b) })
	anyPairs(64, 40, 200, func(a, b api.Frac) { computes(t, a, b) })
}

// P6.2: 0 in any way, with anything: with numbers of 2048 limbs too.
func TestWithZero(t *testing.T) {
	for _, z := range zeros() {
		for _, a := range []api.Frac{small(1, 1), small(-7, 3), small(12, 8), small(0, 5), fracOf(power(7, 90), power(10, 40))} {
			computes(t, a, z)
			computes(t, z, a)
		}
	}
	for _, z := range []api.Frac{small(0, 1), turned(small(0, 1)), padded(small(0, 1), 2), {D: api.Nat{1, 0}}} {
		for _, a := range longFracs() {
			computes(t, a, z)
			computes(t, z, a)
		}
	}
}

// P6.2: what the results are computed from has 2048 limbs, or one bit more.
func TestComputesAtTheLimit(t *testing.T) {
	for _, c := range longPairs() {
		computesAllSigns(t, c.a, c.b)
	}
}

// P6.2: the same with limbs that are 0 on top: they do not count.
func TestComputesPadded(t *testing.T) {
	for _, c := range longPairs()[:8] {
		computes(t, padded(c.a, 100), padded(c.b, 2048))
	}
	for _, a := range longFracs()[:4] {
		computes(t, padded(a, 1), small(1, 1))
	}
}

// P6.2: wrong inputs: a divisor of 0, in any way, comes ahead of products that are too long, even by anything.
func TestDivByZero(t *testing.T) {
	divisors := append(zeros(), fracOf(new(big.Int), allOnes(maxBits)), turned(fracOf(new(big.Int), pow2(maxBits-1))))
	for _, a := range slices.Concat([]api.Frac{small(1, 1), small(-7, 3), small(0, 1), small(0, 4)}, longFracs()) {
		for _, z := range divisors {
			got, e := frac.Div(a, z)
			fails(t, api.ErrArg, got, e, "Div", a, z)
		}
	}
}

func same(a, b api.Frac) bool {
	return a.N.Neg == b.N.Neg && slices.Equal(a.N.M, b.N.M) && slices.Equal(a.D, b.D)
}

// P6.6: a field.
func TestLaws(t *testing.T) {
	g := rand.New(rand.NewPCG(6, 6))
	sum := func(a, b api.Frac) api.Frac { out, _ := frac.Add(a, b); return out }
	difference := func(a, b api.Frac) api.Frac { out, _ := frac.Sub(a, b); return out }
	product := func(a, b api.Frac) api.Frac { out, _ := frac.Mul(a, b); return out }
	quotient := func(a, b api.Frac) api.Frac { out, _ := frac.Div(a, b); return out }
	for range 10000 {
		n := 1 + g.IntN(5)
		a, b, c := anyFrac(g, n), anyFrac(g, n), anyFrac(g, n)
		norm, e := frac.Norm(a)
		minus, _ := frac.Neg(a)
		switch {
		case e != api.OK, !same(sum(a, small(0, 3)), norm), !same(product(a, small(5, 5)), norm):
			t.Errorf("0 and 1, with %s", shown(a))
		case !same(sum(a, b), sum(b, a)), !same(sum(sum(a, b), c), sum(a, sum(b, c))):
			t.Errorf("sums of %s", shown(a, b, c))
		case !same(product(a, b), product(b, a)), !same(product(product(a, b), c), product(a, product(b, c))):
			t.Errorf("products of %s", shown(a, b, c))
		case !same(product(a, sum(b, c)), sum(product(a, b), product(a, c))):
			t.Errorf("a product with a sum of %s", shown(a, b, c))
		case !same(difference(sum(a, b), b), norm), !same(sum(difference(a, b), b), norm), !same(sum(a, minus), frac.Of(0)):
			t.Errorf("the way back from a sum of %s", shown(a, b))
		case frac.Sign(b) != 0 && (!same(quotient(product(a, b), b), norm) || !same(product(quotient(a, b), b), norm) || !same(quotient(b, b), frac.Of(1))):
			t.Errorf("the way back from a product of %s", shown(a, b))
		}
	}
}
