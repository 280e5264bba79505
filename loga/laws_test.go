package loga_test

import (
	"math/big"
	"math/rand/v2"
	"slices"
	"testing"

	"stepstone/api"
	"stepstone/dyad"
	"stepstone/expo"
	"stepstone/loga"
)

// both are the results down and up of a number that has some.
func both(t *testing.T, a api.Dyad, p int) (down, up api.Dyad) {
	t.Helper()
	down, e := loga.Log(a, p, false)
	up, f := loga.Log(a, p, true)
	if e != api.OK || f != api.OK {
		t.Fatalf("Log of %s to %d bits: errors %d, %d", shown(a), p, e, f)
	}
	return down, up
}

func notAbove(a, b api.Dyad) bool {
	c, e := dyad.Cmp(a, b)
	return c <= 0 && e == api.OK
}

func sum(l ...api.Dyad) api.Dyad {
	var out api.Dyad
	for _, a := range l {
		out, _ = dyad.Add(out, a)
	}
	return out
}

func product(a, b api.Dyad) api.Dyad {
	out, _ := dyad.Mul(a, b)
	return out
}

// slack is more than the results to p bits of some numbers are off, all together: each less than 2^(1-p) of it.
func slack(p int, l ...api.Dyad) api.Dyad {
	var out api.Dyad
	for _, a := range l {
		if dyad.Sign(a) < 0 {
			a = turned(a)
		}
		out = sum(out, a)
	}
	return product(out, small(1, 2-p))
}

// adds checks what follows for the product of two numbers: it need not be fine, but then nothing does.
func adds(t *testing.T, a, b api.Dyad, p int) {
	t.Helper()
	if !expo.Fine(product(a, b)) {
		return
	}
	aDown, aUp := both(t, a, p)
	bDown, bUp := both(t, b, p)
	down, up := both(t, product(a, b), p)
	if !notAbove(sum(aDown, bDown), up) {
		t.Errorf("Log of %s to %d bits: the sum of both results down is above that for the product, up", shown(a, b), p)
	}
	if !notAbove(down, sum(aUp, bUp)) {
		t.Errorf("Log of %s to %d bits: the sum of both results up is below that for the product, down", shown(a, b), p)
	}
	most := slack(p, aDown, aUp, bDown, bUp, down, up)
	if !notAbove(sum(aUp, bUp), sum(down, most)) || !notAbove(up, sum(aDown, bDown, most)) {
		t.Errorf("Log of %s to %d bits: the sums are farther from the result for the product than roundings can be", shown(a, b), p)
	}
}

// P10.3: for a product the result is the sum, as far as the roundings allow: many pairs above 1 and below it, of one size or not, and of numbers that make 1, or nearly.
func TestSums(t *testing.T) {
	g := rand.New(rand.NewPCG(10, 5))
	for range 1500 {
		a := anyDyad(g, 1+g.IntN(150), 20-g.IntN(40))
		b := anyDyad(g, 1+g.IntN(150), 20-g.IntN(40))
		p := 5 + g.IntN(200)
		adds(t, a, b, p)
		adds(t, a, a, p)
		adds(t, a, small(1, -dyad.Top(a)), p)
		adds(t, nearOne(g, 1+g.IntN(100), 1+g.IntN(200)), nearOne(g, 1+g.IntN(100), 1+g.IntN(200)), p)
	}
	for range 10 {
		a, b := anyDyad(g, 2000, fine), anyDyad(g, 2000, 10)
		adds(t, a, b, fine)
		adds(t, a, small(1, -1000), fine)
		adds(t, a, small(1, 0), fine)
	}
	for _, n := range []int{1, 2, 64, 2000, fine} {
		for _, p := range []int{1, 2, 64, fine} {
			adds(t, small(1, n), small(1, -n), p)
			adds(t, small(1, n/2), small(1, n/2), p)
		}
	}
	adds(t, odd(plus(pow2(2000), 1), -2000), odd(plus(pow2(2000), -1), -2000), fine)
	adds(t, written(allOnes(fewBits/2), fine/2), written(allOnes(fewBits/2), fine/2), fine)
}

// P10.3: the result for 1 is 0, that for other numbers is on the side of 0 that they are of 1.
func TestSides(t *testing.T) {
	g := rand.New(rand.NewPCG(10, 6))
	l := append(someFine(), ones()...)
	for range 500 {
		l = append(l, anyDyad(g, 1+g.IntN(150), 20-g.IntN(40)), nearOne(g, 1+g.IntN(150), 1+g.IntN(3000)))
	}
	for _, a := range l {
		side, _ := dyad.Cmp(a, small(1, 0))
		for _, p := range []int{1, 2, 64} {
			down, up := both(t, a, p)
			if dyad.Sign(down) != side || dyad.Sign(up) != side {
				t.Errorf("Log of %s to %d bits = %s, on the wrong side of 0", shown(a), p, shown(down, up))
			}
		}
	}
}

// grows checks that a greater number has no lesser result, in numbers that are put into their order.
func grows(t *testing.T, l []api.Dyad, p int) {
	t.Helper()
	slices.SortFunc(l, func(a, b api.Dyad) int {
		c, _ := dyad.Cmp(a, b)
		return c
	})
	var down, up api.Dyad
	for i, a := range l {
		nextDown, nextUp := both(t, a, p)
		if i > 0 && (!notAbove(down, nextDown) || !notAbove(up, nextUp)) {
			t.Errorf("Log of %s to %d bits = %s, then %s", shown(l[i-1:i+1]...), p, shown(down, up), shown(nextDown, nextUp))
		}
		down, up = nextDown, nextUp
	}
}

// P10.3: numbers that grow: in even steps, far apart and near, around 1, around those at which what is split off changes, around those whose results are next to each other.
func TestGrows(t *testing.T) {
	g := rand.New(rand.NewPCG(10, 7))
	for _, p := range []int{1, 2, 3, 10, 53, 64, 65, 130} {
		l := append(someFine(), small(1, 0))
		for range 400 {
			l = append(l, anyDyad(g, 1+g.IntN(150), 20-g.IntN(100)), nearOne(g, 1+g.IntN(100), 1+g.IntN(200)))
		}
		grows(t, l, p)
		for _, step := range []int{-6, -p - 2, -p + 1, -2 * p, -fine} {
			for _, from := range []api.Dyad{anyDyad(g, 40, 5), small(1, 1), small(3, -1), small(3, -2)} {
				l = nil
				for i := range int64(30) {
					l = append(l, sum(from, small(i, min(step, dyad.Top(from)-6))))
				}
				grows(t, l, p)
			}
			l = nil
			for i := range int64(50) {
				l = append(l, sum(small(1, 0), small(i-25, min(step, -6))))
			}
			grows(t, l, p)
		}
	}
	grows(t, []api.Dyad{small(1, -fine), belowOne(), small(1, 0), aboveOne(), odd(plus(pow2(fine-1), 1), 1-fine), small(1, fine), written(allOnes(fewBits), fine)}, fine)
}

// apart checks that both results of a number differ by one in the last of p bits of that nearer to 0, which has its highest bit at Top; those of 1 are equal.
func apart(t *testing.T, a api.Dyad, p int) {
	t.Helper()
	down, up := both(t, a, p)
	last := small(1, min(dyad.Top(down), dyad.Top(up))-p)
	if sameNumber(a, small(1, 0)) {
		last = api.Dyad{}
	}
	if !sameNumber(up, sum(down, last)) {
		t.Errorf("Log of %s to %d bits = %s, not apart by %s", shown(a), p, shown(down, up), shown(last))
	}
	if n := bigOf(down.M).BitLen(); n > p || bigOf(up.M).BitLen() > p {
		t.Errorf("Log of %s to %d bits = %s has more bits", shown(a), p, shown(down, up))
	}
}

// P10.4: down and up are apart by one in the last of p bits, for many numbers other than 1, also those whose results are next to a short number; for 1 they are equal.
func TestApart(t *testing.T) {
	g := rand.New(rand.NewPCG(10, 8))
	for range 2000 {
		apart(t, anyDyad(g, 1+g.IntN(150), 20-g.IntN(60)), 1+g.IntN(200))
		apart(t, nearOne(g, 1+g.IntN(150), 1+g.IntN(1000)), 1+g.IntN(200))
	}
	for range 20 {
		apart(t, anyDyad(g, 3000, 16), fine-g.IntN(2))
		apart(t, nearOne(g, 1000, 1+g.IntN(2900)), fine-g.IntN(2))
	}
	for _, x := range []string{"1", "1p-1", "-1p-3", "128", "-3"} {
		for _, places := range []int{64, 300, 1000} {
			for _, up := range directions() {
				a, _ := expo.Exp(num(x), places, up)
				for _, p := range []int{1, 2, 33, 64, 200, 1000} {
					apart(t, a, p)
				}
			}
		}
	}
	for _, p := range []int{1, 2, 64, fine - 1, fine} {
		for _, a := range []api.Dyad{small(1, 0), small(1, 1), small(1, -1), small(3, 0), aboveOne(), belowOne(), odd(plus(pow2(2000), 1), -2000), odd(plus(pow2(2000), -1), -2000), small(1, fine), small(1, -fine), written(allOnes(fewBits), fine)} {
			apart(t, a, p)
		}
	}
}

// returns checks what follows for e to the power of both results: it is the number, as far as the roundings of both layers allow.
func returns(t *testing.T, a api.Dyad, p, q int) {
	t.Helper()
	down, up := both(t, a, p)
	if !expo.Fine(down) || !expo.Fine(up) {
		return
	}
	low, e := expo.Exp(down, q, false)
	high, f := expo.Exp(up, q, true)
	if e != api.OK || f != api.OK || !notAbove(low, a) || !notAbove(a, high) {
		t.Errorf("Log of %s to %d bits = %s: e to their power is %s, errors %d, %d", shown(a), p, shown(down, up), shown(low, high), e, f)
	}
	// Apart by d, both have powers that are apart by no more than 2d of a, as d is below 1; to that each rounding adds less than 2^(1-q) of one of them.
	d := sum(up, turned(down))
	most := product(a, sum(d, d, small(1, 3-q)))
	if !notAbove(sum(high, turned(low)), most) {
		t.Errorf("Log of %s to %d bits = %s: e to their power is %s, too far apart", shown(a), p, shown(down, up), shown(low, high))
	}
}

// P10.3: e to the power of the result down is at most the number, that of the result up at least; neither is far from it.
func TestReturns(t *testing.T) {
	g := rand.New(rand.NewPCG(10, 9))
	for range 1500 {
		returns(t, anyDyad(g, 1+g.IntN(150), 20-g.IntN(60)), 8+g.IntN(200), 8+g.IntN(200))
		returns(t, nearOne(g, 1+g.IntN(150), 1+g.IntN(200)), 8+g.IntN(200), 8+g.IntN(400))
	}
	for range 10 {
		returns(t, anyDyad(g, 3000, 16), fine-g.IntN(2), fine-g.IntN(2))
		returns(t, nearOne(g, 1000, 1+g.IntN(900)), 2000, fine-g.IntN(2))
	}
	for _, a := range append(someFine(), ones()...) {
		returns(t, a, 64, 64)
		returns(t, a, 64, fine)
	}
}

// undoes checks that the logarithms of both powers of x are on either side of it, and not far from each other.
func undoes(t *testing.T, x api.Dyad, q, p int) {
	t.Helper()
	low, e := expo.Exp(x, q, false)
	high, f := expo.Exp(x, q, true)
	if e != api.OK || f != api.OK || !expo.Fine(low) || !expo.Fine(high) {
		return
	}
	down, _ := both(t, low, p)
	_, up := both(t, high, p)
	most := sum(slack(p, down, up), small(1, 2-q))
	if !notAbove(down, x) || !notAbove(x, up) || !notAbove(sum(up, turned(down)), most) {
		t.Errorf("Log of e to the power of %s, to %d bits, to %d bits = %s", shown(x), q, p, shown(down, up))
	}
}

// P10.3: the logarithm of a power of e is its exponent, as far as the roundings of both layers allow.
func TestUndoes(t *testing.T) {
	g := rand.New(rand.NewPCG(10, 10))
	for range 1500 {
		x := anyDyad(g, 1+g.IntN(100), 11-g.IntN(40))
		undoes(t, x, 8+g.IntN(200), 8+g.IntN(200))
		undoes(t, turned(x), 8+g.IntN(200), 8+g.IntN(200))
	}
	for _, x := range []string{"1", "-1", "5000", "1p-30", "-3p-2"} {
		undoes(t, num(x), fine-100, fine)
	}
}

// contains checks that Of of an interval that has x in it contains the logarithm of x, as the model knows it to many more bits.
func (m model) contains(t *testing.T, a api.Ivl, p int, x *big.Rat) {
	t.Helper()
	out := loga.Of(a, p)
	n := p + near(x) + 200
	lo, hi := new(big.Int), new(big.Int)
	if x.Cmp(big.NewRat(1, 1)) != 0 {
		lo, hi = m.log(x, n)
	}
	if out.Kind != api.IvSome || !notAbove(out.Lo, odd(lo, -n)) || !notAbove(odd(hi, -n), out.Hi) {
		t.Errorf("Of of %s to %d bits = %s does not contain the logarithm of %s", shownIvl(a), p, shownIvl(out), x.FloatString(30))
	}
}

// P10.4: for x in an interval, Of contains its logarithm: x at an end, inside, no dyadic number, 1 where that is inside.
func TestContains(t *testing.T) {
	by := newModel()
	g := rand.New(rand.NewPCG(10, 11))
	one := big.NewRat(1, 1)
	for range 1000 {
		top := 20 - g.IntN(40)
		a := between(anyDyad(g, 1+g.IntN(100), top), anyDyad(g, 1+g.IntN(100), top-g.IntN(3)))
		p := 1 + g.IntN(120)
		lo, hi := ratOf(a.Lo), ratOf(a.Hi)
		width := new(big.Rat).Sub(hi, lo)
		for range 2 {
			part := big.NewRat(g.Int64N(1<<40), 1<<40+g.Int64N(1<<50))
			by.contains(t, a, p, part.Add(lo, part.Mul(part, width)))
		}
		by.contains(t, a, p, lo)
		by.contains(t, a, p, hi)
		by.contains(t, some(a.Lo, a.Lo), p, lo)
		if lo.Cmp(one) <= 0 && hi.Cmp(one) >= 0 {
			by.contains(t, a, p, one)
		}
	}
	for _, a := range []api.Ivl{known("1"), known("1p-1 1"), known("1 2"), known("1p-4000 1p4000"), known("1p-4000 1"), some(belowOne(), aboveOne()), some(belowOne(), small(1, 0)), some(small(1, 0), aboveOne())} {
		by.contains(t, a, 64, one)
	}
	by.contains(t, known("2"), 4000, big.NewRat(2, 1))
}
