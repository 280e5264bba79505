package expo_test

import (
	"math/big"
	"math/rand/v2"
	"slices"
	"testing"

	"stepstone/api"
	"stepstone/dyad"
	"stepstone/expo"
)

// both are the results down and up of a number that has some.
func both(t *testing.T, a api.Dyad, p int) (down, up api.Dyad) {
	t.Helper()
	down, e := expo.Exp(a, p, false)
	up, f := expo.Exp(a, p, true)
	if e != api.OK || f != api.OK {
		t.Fatalf("Exp of %s to %d bits: errors %d, %d", shown(a), p, e, f)
	}
	return down, up
}

func notAbove(a, b api.Dyad) bool {
	c, e := dyad.Cmp(a, b)
	return c <= 0 && e == api.OK
}

func sum(a, b api.Dyad) api.Dyad {
	out, _ := dyad.Add(a, b)
	return out
}

func product(a, b api.Dyad) api.Dyad {
	out, _ := dyad.Mul(a, b)
	return out
}

// multiplies checks what follows for the sum of two numbers.
func multiplies(t *testing.T, a, b api.Dyad, p int) {
	t.Helper()
	aDown, aUp := both(t, a, p)
	bDown, bUp := both(t, b, p)
	down, up := both(t, sum(a, b), p)
	if !notAbove(product(aDown, bDown), up) {
		t.Errorf("Exp of %s to %d bits: the product of both results down is above that for the sum, up", shown(a, b), p)
	}
	if !notAbove(down, product(aUp, bUp)) {
		t.Errorf("Exp of %s to %d bits: the product of both results up is below that for the sum, down", shown(a, b), p)
	}
	// A result is off by less than 2^(1-p) of it; so are these, twice and once, even if all is rounded the same way.
	slack := sum(small(1, 0), small(1, 4-p))
	if !notAbove(product(aUp, bUp), product(down, slack)) || !notAbove(up, product(product(aDown, bDown), slack)) {
		t.Errorf("Exp of %s to %d bits: the products are farther from the result for the sum than roundings can be", shown(a, b), p)
	}
}

// P9.3: for a sum the result is the product, as far as the roundings allow: many pairs of both signs, of one size or not, and of numbers that make 0.
func TestProducts(t *testing.T) {
	g := rand.New(rand.NewPCG(9, 4))
	for range 3000 {
		a := anyDyad(g, 1+g.IntN(150), 16-g.IntN(40))
		b := anyDyad(g, 1+g.IntN(150), 16-g.IntN(40))
		p := 5 + g.IntN(200)
		multiplies(t, a, b, p)
		multiplies(t, a, a, p)
		multiplies(t, a, turned(a), p)
	}
	for range 10 {
		a, b := anyDyad(g, 3000, 16), anyDyad(g, 3000, 10)
		multiplies(t, a, b, fine)
		multiplies(t, a, turned(a), fine)
		multiplies(t, a, api.Dyad{}, fine)
	}
	multiplies(t, small(1, -fine), small(1, -fine), fine)
	multiplies(t, small(1, -fine), small(-1, -fine), fine)
	multiplies(t, small(1, 16), written(allOnes(16+fine), -fine), fine)
}

// P9.3: the result is above 0, that of 0 is 1, and so no result is on the other side of 1 than its number is of 0.
func TestAboveZero(t *testing.T) {
	g := rand.New(rand.NewPCG(9, 5))
	l := append(atTheTop(), api.Dyad{}, small(1, 0), small(-1, 0), small(1, -fine), small(-1, -fine))
	for range 500 {
		l = append(l, anyDyad(g, 1+g.IntN(150), 17-g.IntN(40)))
	}
	for _, a := range l {
		for _, p := range []int{1, 2, 64} {
			down, up := both(t, a, p)
			one, side := small(1, 0), dyad.Sign(a)
			if dyad.Sign(down) != 1 || dyad.Sign(up) != 1 {
				t.Errorf("Exp of %s to %d bits = %s, not above 0", shown(a), p, shown(down, up))
			}
			if side >= 0 && !notAbove(one, down) || side <= 0 && !notAbove(up, one) {
				t.Errorf("Exp of %s to %d bits = %s, on the wrong side of 1", shown(a), p, shown(down, up))
			}
		}
	}
}

// grows checks that a greater number has no lesser result, in numbers that are put into their order.
func grows(t *testing.T, l []api.Dyad, p int) {
	t.Helper()
	slices.SortFunc(l, func(a, b api.Dyad) int {
		c, _ := dyad.Cmp(a, b)
		return c
	})
	for i := 1; i < len(l); i++ {
		down, up := both(t, l[i-1], p)
		nextDown, nextUp := both(t, l[i], p)
		if !notAbove(down, nextDown) || !notAbove(up, nextUp) {
			t.Errorf("Exp of %s to %d bits = %s, then %s", shown(l[i-1:i+1]...), p, shown(down, up), shown(nextDown, nextUp))
		}
	}
}

// P9.3: numbers that grow: in even steps, far apart and near, around 0, around those whose results are next to each other.
func TestGrows(t *testing.T) {
	g := rand.New(rand.NewPCG(9, 6))
	for _, p := range []int{1, 2, 3, 10, 53, 64, 65, 130} {
		l := append(atTheTop(), api.Dyad{}, small(1, -fine), small(-1, -fine))
		for range 400 {
			l = append(l, anyDyad(g, 1+g.IntN(150), 17-g.IntN(100)))
		}
		grows(t, l, p)
		for _, step := range []int{-2, -p - 2, -p + 1, -2 * p, -fine} {
			from := anyDyad(g, 40, 5)
			l = nil
			for i := range int64(100) {
				l = append(l, sum(from, small(i, step)), small(i-50, step))
			}
			grows(t, l, p)
		}
	}
	grows(t, []api.Dyad{small(-1, -fine), {}, small(1, -fine), small(1, 1-fine), small(1, 0), sum(small(1, 0), small(1, -fine)), sum(small(1, 0), small(-1, -fine))}, fine)
}

// apart checks that both results of a number that is not 0 differ by one in the last of p bits of the one down, which has its highest bit at Top.
func apart(t *testing.T, a api.Dyad, p int) {
	t.Helper()
	down, up := both(t, a, p)
	if last := small(1, dyad.Top(down)-p); !sameNumber(up, sum(down, last)) {
		t.Errorf("Exp of %s to %d bits = %s, not apart by %s", shown(a), p, shown(down, up), shown(last))
	}
	if n := bigOf(down.M).BitLen(); n > p || bigOf(up.M).BitLen() > p {
		t.Errorf("Exp of %s to %d bits = %s has more bits", shown(a), p, shown(down, up))
	}
}

// P9.4: down and up are apart by one in the last of p bits, for many numbers other than 0, also those whose results are next to a power of 2; for 0 they are equal.
func TestApart(t *testing.T) {
	g := rand.New(rand.NewPCG(9, 7))
	for range 3000 {
		apart(t, anyDyad(g, 1+g.IntN(150), 17-g.IntN(60)), 1+g.IntN(200))
	}
	for range 20 {
		apart(t, anyDyad(g, 3000, 16), fine-g.IntN(2))
	}
	by := newModel()
	for _, n := range []int64{1, 5, -3, 1000} {
		for _, places := range []int{64, 300, 2000} {
			below, above := nextToLogs(by, n, places)
			for _, p := range []int{1, 2, 33, 64, 200} {
				apart(t, below, p)
				apart(t, above, p)
			}
		}
	}
	for _, p := range []int{1, 2, 64, fine - 1, fine} {
		for _, a := range append(atTheTop(), small(1, -fine), small(-1, -fine), small(1, -2000), small(-1, -2000), small(1, 0), small(-1, 0)) {
			apart(t, a, p)
		}
		if down, up := both(t, api.Dyad{}, p); !sameNumber(down, up) {
			t.Errorf("Exp of 0 to %d bits = %s, not equal", p, shown(down, up))
		}
	}
}

// contains checks that Of of an interval that has x in it contains the power of x, as the model knows it to many more bits.
func (m model) contains(t *testing.T, a api.Ivl, p int, x *big.Rat) {
	t.Helper()
	out := expo.Of(a, p)
	lo, hi, e := m.power(x, p+200)
	if x.Sign() == 0 {
		lo, hi, e = big.NewInt(1), big.NewInt(1), 0
	}
	if out.Kind != api.IvSome || !notAbove(out.Lo, odd(lo, e)) || !notAbove(odd(hi, e), out.Hi) {
		t.Errorf("Of of %s to %d bits = %s does not contain e to the power of %s", shownIvl(a), p, shownIvl(out), x.FloatString(30))
	}
}

// P9.4: for x in an interval, Of contains e to the power of x: x at an end, inside, no dyadic number, 0 where that is inside.
func TestContains(t *testing.T) {
	by := newModel()
	g := rand.New(rand.NewPCG(9, 8))
	for range 1000 {
		top := 16 - g.IntN(40)
		a := between(anyDyad(g, 1+g.IntN(100), top), anyDyad(g, 1+g.IntN(100), top))
		p := 1 + g.IntN(120)
		lo, hi := ratOf(a.Lo), ratOf(a.Hi)
		width := new(big.Rat).Sub(hi, lo)
		for range 2 {
			part := big.NewRat(g.Int64N(1<<40), 1<<40+g.Int64N(1<<50))
			by.contains(t, a, p, part.Add(lo, part.Mul(part, width)))
		}
		by.contains(t, a, p, lo)
		by.contains(t, a, p, hi)
		by.contains(t, some(a.Lo, a.Lo), p, lo)
		if lo.Sign() <= 0 && hi.Sign() >= 0 {
			by.contains(t, a, p, new(big.Rat))
		}
	}
	for _, s := range []string{"0", "0 1", "-1 0", "-131071 0", "0 131071", "-1p-4000 1p-4000"} {
		by.contains(t, known(s), 64, new(big.Rat))
	}
}
