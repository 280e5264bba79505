package dyad_test

import (
	"math"
	"math/big"
	"math/rand/v2"
	"slices"
	"testing"

	"stepstone/api"
	"stepstone/dyad"
)

// apart tells whether one of both, in units of the lesser exponent, is too long to be added.
func apart(x, y exact) bool {
	if x.m.Sign() == 0 || y.m.Sign() == 0 {
		return false
	}
	e := min(x.e, y.e)
	return max(x.m.BitLen()+x.e, y.m.BitLen()+y.e)-e > maxBits
}

func sums(t *testing.T, a, b api.Dyad) {
	t.Helper()
	x, y := valueOf(a), valueOf(b)
	sum, sumError := dyad.Add(a, b)
	difference, differenceError := dyad.Sub(a, b)
	if apart(x, y) {
		fails(t, api.ErrBig, sum, sumError, "Add", a, b)
		fails(t, api.ErrBig, difference, differenceError, "Sub", a, b)
		return
	}
	isExact(t, x.plus(y), sum, sumError, "Add", a, b)
	isExact(t, x.plus(y.turned()), difference, differenceError, "Sub", a, b)
}

func sumsOfAllSigns(t *testing.T, a, b api.Dyad) {
	t.Helper()
	for _, x := range []api.Dyad{a, turned(a)} {
		for _, y := range []api.Dyad{b, turned(b)} {
			sums(t, x, y)
			sums(t, y, x)
		}
	}
}

func products(t *testing.T, a, b api.Dyad) {
	t.Helper()
	got, e := dyad.Mul(a, b)
	isExact(t, valueOf(a).times(valueOf(b)), got, e, "Mul", a, b)
}

// P5.2: the chapter's example, and others by hand.
func TestAddByHand(t *testing.T) {
	for _, c := range []struct{ a, b, sum, difference, product api.Dyad }{
		{small(1, -1), small(3, -2), small(5, -2), small(-1, -2), small(3, -3)},
		{small(3, 0), small(5, 0), small(1, 3), small(-1, 1), small(15, 0)},
		{small(3, 0), small(-3, 0), small(0, 0), small(3, 1), small(-9, 0)},
		{small(1, 10), small(-1, 0), small(1023, 0), small(1025, 0), small(-1, 10)},
		{small(12, -2), small(0, 5), small(3, 0), small(3, 0), small(0, 0)},
		{small(0, 5), small(-12, -2), small(-3, 0), small(3, 0), small(0, 0)},
		{small(6, 1), small(10, -1), small(17, 0), small(7, 0), small(15, 2)},
	} {
		got, e := dyad.Add(c.a, c.b)
		isExact(t, valueOf(c.sum), got, e, "Add", c.a, c.b)
		got, e = dyad.Sub(c.a, c.b)
		isExact(t, valueOf(c.difference), got, e, "Sub", c.a, c.b)
		got, e = dyad.Mul(c.a, c.b)
		isExact(t, valueOf(c.product), got, e, "Mul", c.a, c.b)
	}
}

// P5.2: sums, differences and products of all pairs of the numbers, exactly.
func TestAddSubMul(t *testing.T) {
	l := slices.Concat(someDyads(), tooFar(), zeros()[:30])
	for _, a := range l {
		for _, b := range l {
			sums(t, a, b)
			products(t, a, b)
		}
	}
	anyPairs(52, 20000, 6, func(a, b api.Dyad) {
		sums(t, a, b)
		products(t, a, b)
	})
	anyPairs(53, 40, 500, func(a, b api.Dyad) {
		sums(t, a, b)
		products(t, a, b)
	})
}

// P5.2: 0 in any way, added to and multiplied with anything: the other exponent does not count, however far it is.
func TestAddZero(t *testing.T) {
	for _, z := range zeros() {
		for _, a := range slices.Concat(tooFar(), zeros()[:7], []api.Dyad{small(1, far), small(-1, -far), small(12, 3), dyadOf(allOnes(maxBits), -far)}) {
			sums(t, a, z)
			sums(t, z, a)
			products(t, a, z)
			products(t, z, a)
		}
	}
}

// P5.2: exponents as far apart as may be, and one further: only the greater number's bits and the distance count, as both are when normal.
func TestAddFarApart(t *testing.T) {
	for _, a := range []*big.Int{big.NewInt(1), big.NewInt(3), big.NewInt(7), big.NewInt(8), allOnes(64), allOnes(100), pow2(1000), allOnes(maxBits / 2), allOnes(maxBits - 1), allOnes(maxBits)} {
		for _, b := range []*big.Int{big.NewInt(1), big.NewInt(5), big.NewInt(4), allOnes(65), allOnes(maxBits), plus(pow2(maxBits-1), 1), pow2(maxBits - 1)} {
			n := maxBits - a.BitLen()
			for _, e := range []int{n - 1, n, n + 1, n + 2, n + 3, n + 4} {
				sumsOfAllSigns(t, dyadOf(a, e), dyadOf(b, 0))
			}
		}
	}
	for _, d := range []int{-1, 0, 1} {
		sumsOfAllSigns(t, small(1, far), small(1, far-maxBits+1+d))
		sumsOfAllSigns(t, small(1, -far), small(1, -far+maxBits-1+d))
	}
	sumsOfAllSigns(t, small(1, far), small(1, -far))
}

// P5.2: sums of numbers that fill all limbs: those of one exponent are even, so one bit more has room; others are odd, and have it or not.
func TestAddAtTheLimit(t *testing.T) {
	full := allOnes(maxBits)
	l := []*big.Int{full, plus(full, -2), plus(pow2(maxBits-1), 1), allOnes(maxBits - 1), plus(pow2(maxBits-1), -3), big.NewInt(1), big.NewInt(3)}
	for _, a := range l {
		for _, b := range l {
			for _, e := range []int{0, 1, 2, 5} {
				sumsOfAllSigns(t, dyadOf(a, 0), dyadOf(b, e))
			}
		}
	}
	got, e := dyad.Add(dyadOf(full, -3), small(1, -3))
	isExact(t, exact{big.NewInt(1), maxBits - 3}, got, e, "Add", dyadOf(full, -3), small(1, -3))
	// Of another exponent the sum is odd, of one bit more.
	got, e = dyad.Add(dyadOf(full, 0), small(1, 1))
	fails(t, api.ErrBig, got, e, "Add", dyadOf(full, 0), small(1, 1))
	got, e = dyad.Sub(dyadOf(negative(full), 0), small(1, 1))
	fails(t, api.ErrBig, got, e, "Sub", dyadOf(negative(full), 0), small(1, 1))
}

// P5.2: results whose exponents leave the bounds, or come back to them from a normal number that is beyond.
func TestSumsOutOfBounds(t *testing.T) {
	for _, c := range []struct {
		a, b api.Dyad
		fits bool
	}{
		{small(1, far), small(1, far), false}, {small(1, far), small(-1, far), true}, {small(3, far), small(-2, far), true}, {small(2, far), small(-1, far), true}, {small(5, far), small(-1, far), false},
		{small(1, -far), small(1, -far), true}, {small(4, far), small(-4, far), true}, {small(4, far), small(-3, far), true},
	} {
		got, e := dyad.Add(c.a, c.b)
		if want := valueOf(c.a).plus(valueOf(c.b)); c.fits != want.isValid() {
			t.Errorf("the sum of %s: fits %v", shown(c.a, c.b), !c.fits)
		} else {
			isExact(t, want, got, e, "Add", c.a, c.b)
		}
	}
}

// P5.2: products of 2048 limbs, and of one bit more; exponents whose sum is at the bounds, and one further, also by what is even.
func TestMulAtTheLimit(t *testing.T) {
	half := maxBits / 2
	l := []*big.Int{allOnes(half), plus(pow2(half), 1), plus(pow2(half-1), 1), pow2(half), allOnes(half + 1), allOnes(maxBits), pow2(maxBits - 1), big.NewInt(1), big.NewInt(3), big.NewInt(-1)}
	for _, a := range l {
		for _, b := range l {
			products(t, dyadOf(a, 3), dyadOf(b, -5))
			products(t, dyadOf(negative(a), 0), dyadOf(b, 0))
		}
	}
	for _, d := range []int{-2, -1, 0, 1, 2} {
		for _, e := range []int{4, 5, far / 2, far - 2} {
			products(t, small(1, e), small(-3, far-e+d))
			products(t, small(-1, -e), small(3, -far+e+d))
			products(t, small(2, e), small(6, far-e+d-2))
			products(t, small(2, -e), small(6, -far+e+d-2))
		}
	}
	products(t, small(2, far), small(1, -1))
	products(t, small(2, far), small(1, 0))
	products(t, small(1, far), small(1, far))
	products(t, small(1, -far), small(1, -far))
	products(t, dyadOf(pow2(maxBits-1), far), dyadOf(pow2(maxBits-1), far))
}

// P5.2: Scale moves the exponent: to the bounds, one further, and by as much as there is; 0 stays.
func TestScale(t *testing.T) {
	var l []api.Dyad
	l = append(append(l, someDyads()...), tooFar()...)
	for _, a := range append(l, small(1, 0), small(1, 5), small(-6, -5), small(64, far), dyadOf(pow2(maxBits-1), -far)) {
		x := valueOf(a)
		steps := []int{0, 1, -1, 64, -1000, far, -far, 2 * far, -2 * far, 2*far + 1, 4 * far, -4 * far, 5 * far, 1 << 40, -1 << 40}
		for d := range 3 {
			steps = append(steps, far-x.e+d-1, -far-x.e+d-1)
		}
		for _, n := range steps {
			got, e := dyad.Scale(a, n)
			isExact(t, exactly(x.m, x.e+n), got, e, "Scale", a, small(1, n))
		}
		for _, n := range []int{math.MaxInt, math.MaxInt - 1, math.MinInt, math.MinInt + 1, math.MaxInt - far, math.MinInt + far} {
			got, e := dyad.Scale(a, n)
			fails(t, api.ErrBig, got, e, "Scale", a, small(1, n))
		}
	}
	for _, z := range zeros() {
		for _, n := range []int{0, 1, -1, far, -far, 3 * far, math.MaxInt, math.MinInt} {
			got, e := dyad.Scale(z, n)
			isExact(t, exactly(new(big.Int), 0), got, e, "Scale", z, small(1, n))
		}
	}
}

// P5.6: sums and products depend neither on order nor on grouping.
func TestLaws(t *testing.T) {
	g := rand.New(rand.NewPCG(5, 6))
	sum := func(a, b api.Dyad) api.Dyad { out, _ := dyad.Add(a, b); return out }
	product := func(a, b api.Dyad) api.Dyad { out, _ := dyad.Mul(a, b); return out }
	same := func(a, b api.Dyad) bool {
		return a.E == b.E && a.M.Neg == b.M.Neg && slices.Equal(a.M.M, b.M.M)
	}
	for range 20000 {
		n := 1 + g.IntN(8)
		a, b, c := anyDyad(g, n), anyDyad(g, n), anyDyad(g, n)
		switch {
		case !same(sum(a, b), sum(b, a)), !same(sum(sum(a, b), c), sum(a, sum(b, c))):
			t.Errorf("sums of %s", shown(a, b, c))
		case !same(product(a, b), product(b, a)), !same(product(product(a, b), c), product(a, product(b, c))):
			t.Errorf("products of %s", shown(a, b, c))
		case !same(product(a, sum(b, c)), sum(product(a, b), product(a, c))):
			t.Errorf("a product with a sum of %s", shown(a, b, c))
		}
	}
}
