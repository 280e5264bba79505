package dyad_test

import (
	"math"
	"math/big"
	"math/rand/v2"
	"slices"
	"testing"

	"stepstone/api"
	"stepstone/dyad"
)

func directions() []bool { return []bool{false, true} }

func mode(up bool) big.RoundingMode {
	if up {
		return big.ToPositiveInf
	}
	return big.ToNegativeInf
}

func rounds(t *testing.T, a api.Dyad, p int) {
	t.Helper()
	x := valueOf(a)
	for _, up := range directions() {
		got, e := dyad.Round(a, p, up)
		want := ofFloat(new(big.Float).SetPrec(uint(p)).SetMode(mode(up)).Set(x.float()))
		isExact(t, want, got, e, "Round", a, small(int64(p), 0))
	}
	roundLaws(t, a, p)
}

// P5.7: down is at most the number, up at least; both stay when they are rounded again; they are equal exactly for numbers of at most p bits, and near to each other.
func roundLaws(t *testing.T, a api.Dyad, p int) {
	t.Helper()
	down, e := dyad.Round(a, p, false)
	up, f := dyad.Round(a, p, true)
	if e != api.OK || f != api.OK {
		return
	}
	x, low, high := valueOf(a), valueOf(down), valueOf(up)
	if low.compare(x) > 0 || high.compare(x) < 0 {
		t.Errorf("Round of %s to %d bits = %s is on the wrong side", shown(a), p, shown(down, up))
	}
	if (low.compare(high) == 0) != (x.m.BitLen() <= p) {
		t.Errorf("Round of %s to %d bits = %s: equal or not", shown(a), p, shown(down, up))
	}
	// How far both are from each other is less than the magnitude divided by 2^(p - 1), but for 0, which they are equal to.
	off := high.plus(low.turned())
	size := exact{new(big.Int).Abs(x.m), x.e - p + 1}
	if x.m.Sign() != 0 && off.compare(size) >= 0 {
		t.Errorf("Round of %s to %d bits = %s: far from each other", shown(a), p, shown(down, up))
	}
	for _, again := range directions() {
		for _, r := range []api.Dyad{down, up} {
			got, e := dyad.Round(r, p, again)
			isExact(t, valueOf(r), got, e, "Round again", r)
		}
	}
}

// P5.3: the chapter's example, and others by hand.
func TestRoundByHand(t *testing.T) {
	for _, c := range []struct {
		m, e, p     int
		low, lowE   int64
		high, highE int64
	}{
		{m: 45, p: 3, low: 5, lowE: 3, high: 3, highE: 4}, {m: -45, p: 3, low: -3, lowE: 4, high: -5, highE: 3},
		{m: 5, p: 2, low: 1, lowE: 2, high: 3, highE: 1}, {m: 5, p: 3, low: 5, high: 5}, {m: 5, p: 1, low: 1, lowE: 2, high: 1, highE: 3},
		{m: 7, e: -9, p: 2, low: 3, lowE: -8, high: 1, highE: -6}, {m: -7, p: 2, low: -1, lowE: 3, high: -3, highE: 1},
		{m: 1, p: 1, low: 1, high: 1}, {m: -1, e: 5, p: 1, low: -1, lowE: 5, high: -1, highE: 5}, {m: 12, p: 2, low: 3, lowE: 2, high: 3, highE: 2},
		{m: 0, e: 3, p: 1}, {m: 3, p: 1, low: 1, lowE: 1, high: 1, highE: 2}, {m: -3, p: 1, low: -1, lowE: 2, high: -1, highE: 1},
	} {
		a := small(int64(c.m), c.e)
		got, e := dyad.Round(a, c.p, false)
		isExact(t, exact{big.NewInt(c.low), int(c.lowE)}, got, e, "Round", a)
		got, e = dyad.Round(a, c.p, true)
		isExact(t, exact{big.NewInt(c.high), int(c.highE)}, got, e, "Round up", a)
	}
}

// P5.3, P5.7: numbers of any kind, of just p bits, of one more and one less.
func TestRound(t *testing.T) {
	for _, a := range slices.Concat(someDyads(), zeros()[:30], tooFar()) {
		n := bigOf(a.M).BitLen()
		odd := valueOf(a).m.BitLen()
		for _, p := range []int{1, 2, 3, 53, 63, 64, 65, 128, n - 1, n, n + 1, odd - 2, odd - 1, odd, odd + 1, api.MaxPrec} {
			if 1 <= p && p <= api.MaxPrec {
				rounds(t, a, p)
			}
		}
	}
	g := rand.New(rand.NewPCG(5, 54))
	for range 20000 {
		a := anyDyad(g, 6)
		rounds(t, a, 1+g.IntN(bigOf(a.M).BitLen()+3))
	}
}

// P5.3: p bits that are all 1, and something behind, near or far: up leads to one bit further ahead.
func TestRoundAllOnes(t *testing.T) {
	for _, p := range []int{1, 2, 3, 63, 64, 65, 1000, api.MaxPrec - 1, api.MaxPrec} {
		for _, n := range []int{1, 2, 64, 500} {
			for _, rest := range []*big.Int{big.NewInt(0), big.NewInt(1), allOnes(n), pow2(n - 1)} {
				m := new(big.Int).Lsh(allOnes(p), uint(n))
				m.Add(m, rest)
				for _, x := range []*big.Int{m, negative(m), plus(m, -1), negative(plus(m, -1))} {
					rounds(t, dyadOf(x, -n), p)
				}
			}
		}
	}
	for _, m := range []*big.Int{allOnes(maxBits), plus(pow2(maxBits-1), 1), allOnes(api.MaxPrec + 1)} {
		for _, p := range []int{1, 64, api.MaxPrec} {
			rounds(t, dyadOf(m, 5), p)
			rounds(t, dyadOf(negative(m), -far), p)
		}
	}
}

// P5.3: results whose exponents leave the bounds: rounded away from 0 and toward it, from the last exponents that stay, and one more.
func TestRoundOutOfBounds(t *testing.T) {
	for _, m := range []int64{1, 3, 5, 7, 9, 45, 63, 65} {
		for _, p := range []int{1, 2, 3, 4} {
			for d := range 9 {
				rounds(t, small(m, far-d), p)
				rounds(t, small(-m, far-d), p)
				rounds(t, small(m, -far+d), p)
			}
		}
	}
	got, e := dyad.Round(small(3, far), 1, true)
	fails(t, api.ErrBig, got, e, "Round", small(3, far))
	got, e = dyad.Round(small(3, far), 1, false)
	fails(t, api.ErrBig, got, e, "Round", small(3, far))
	got, e = dyad.Round(small(-5, far-2), 2, true)
	isExact(t, exact{big.NewInt(-1), far}, got, e, "Round", small(-5, far-2))
}

func wrongPrecisions() []int {
	return []int{0, -1, -64, api.MaxPrec + 1, api.MaxPrec + 2, maxBits, math.MaxInt, math.MinInt}
}

// P5.3: wrong inputs: p that is none, also for 0, for numbers that are exact, and such that the result would not be valid.
func TestRoundWrong(t *testing.T) {
	for _, a := range []api.Dyad{small(0, 0), small(1, 0), small(-45, 2), small(2, far), dyadOf(allOnes(maxBits), 0)} {
		for _, p := range wrongPrecisions() {
			for _, up := range directions() {
				got, e := dyad.Round(a, p, up)
				fails(t, api.ErrArg, got, e, "Round", a)
			}
		}
	}
}

// quotient is the library's, which rounds what it divides once.
func quotient(x, y exact, p int, up bool) exact {
	return ofFloat(new(big.Float).SetPrec(uint(p)).SetMode(mode(up)).Quo(x.float(), y.float()))
}

func divides(t *testing.T, a, b api.Dyad, p int) {
	t.Helper()
	x, y := valueOf(a), valueOf(b)
	for _, up := range directions() {
		got, e := dyad.Div(a, b, p, up)
		switch {
		case y.m.Sign() == 0:
			fails(t, api.ErrArg, got, e, "Div", a, b)
		case x.m.Sign() != 0 && y.m.BitLen()+p > maxBits:
			fails(t, api.ErrBig, got, e, "Div", a, b)
		default:
			isExact(t, quotient(x, y, p, up), got, e, "Div", a, b, small(int64(p), 0))
			if e == api.OK {
				quotientLaws(t, x, y, valueOf(got), p, up)
			}
		}
	}
}

// P5.3: what is rounded has at most p bits, and is on the side that it is to be on; the next one nearer to the quotient is not.
func quotientLaws(t *testing.T, x, y, q exact, p int, up bool) {
	t.Helper()
	// The sign of how far the quotient is above q.
	above := func(q exact) int { return x.plus(q.times(y).turned()).m.Sign() * y.m.Sign() }
	step := exact{big.NewInt(1), q.m.BitLen() + q.e - p}
	if up {
		step = step.turned()
	} else if q.m.Sign() < 0 && q.m.CmpAbs(big.NewInt(1)) == 0 {
		// Toward 0 from a power of two, numbers are nearer to each other.
		step.e--
	}
	if up && q.m.Cmp(big.NewInt(1)) == 0 {
		step.e--
	}
	side := 1
	if up {
		side = -1
	}
	if q.m.BitLen() > p || above(q)*side < 0 || x.m.Sign() != 0 && above(q.plus(step))*side >= 0 {
		t.Errorf("the quotient of %s, to %d bits, up %v: %s", shown(dyadOf(x.m, x.e), dyadOf(y.m, y.e)), p, up, shown(dyadOf(q.m, q.e)))
	}
}

// P5.3: the chapter's example, and others by hand.
func TestDivByHand(t *testing.T) {
	for _, c := range []struct{ a, b, low, high api.Dyad }{
		{small(1, 0), small(3, 0), small(5, -4), small(11, -5)},
		{small(-1, 0), small(3, 0), small(-11, -5), small(-5, -4)},
		{small(1, 0), small(-3, 0), small(-11, -5), small(-5, -4)},
		{small(-1, 0), small(-3, 0), small(5, -4), small(11, -5)},
		{small(6, 5), small(3, 7), small(1, -1), small(1, -1)},
		{small(100, 0), small(3, 0), small(1, 5), small(9, 2)},
		{small(45, 0), small(1, 0), small(11, 2), small(3, 4)},
		{small(-45, 0), small(1, 2), small(-3, 2), small(-11, 0)},
		{small(0, 7), small(-3, 0), small(0, 0), small(0, 0)},
	} {
		got, e := dyad.Div(c.a, c.b, 4, false)
		isExact(t, valueOf(c.low), got, e, "Div", c.a, c.b)
		got, e = dyad.Div(c.a, c.b, 4, true)
		isExact(t, valueOf(c.high), got, e, "Div up", c.a, c.b)
	}
}

// P5.3: quotients of all pairs, of all signs, by 0 too; whole ones, and such as have just p bits, one more or one less.
func TestDiv(t *testing.T) {
	for a := int64(-40); a <= 40; a++ {
		for b := int64(-20); b <= 20; b++ {
			for p := 1; p <= 6; p++ {
				divides(t, small(a, int(b)), small(b, int(a)), p)
			}
		}
	}
	l := append(someDyads(), zeros()[:20]...)
	for i, a := range l {
		for j, b := range l {
			divides(t, a, b, 1+(7*i+11*j)%130)
		}
	}
	g := rand.New(rand.NewPCG(5, 55))
	anyPairs(56, 20000, 6, func(a, b api.Dyad) { divides(t, a, b, 1+g.IntN(400)) })
	anyPairs(57, 30, 300, func(a, b api.Dyad) { divides(t, a, b, 1+g.IntN(30000)) })
}

// P5.3: what was multiplied, and may have something at its end, divided: quotients that are whole, and such as are next to one.
func TestDivWhole(t *testing.T) {
	g := rand.New(rand.NewPCG(5, 58))
	for range 5000 {
		q, b := anyDyad(g, 4), anyDyad(g, 4)
		x := valueOf(q).times(valueOf(b))
		p := 1 + g.IntN(valueOf(q).m.BitLen()+2)
		for _, d := range []int64{-1, 0, 1} {
			m := new(big.Int).Lsh(x.m, uint(g.IntN(100)))
			divides(t, dyadOf(plus(m, d), g.IntN(50)), b, p)
		}
	}
	whole := small(-12, 3)
	for _, up := range directions() {
		for _, p := range []int{2, 3, 64, api.MaxPrec} {
			got, e := dyad.Div(dyadOf(negative(new(big.Int).Mul(big.NewInt(12), allOnes(5000))), 8), dyadOf(allOnes(5000), 5), p, up)
			isExact(t, valueOf(whole), got, e, "Div", whole)
		}
	}
}

// P5.3: bits of b, when it is normal, and p: as many as there is room for, and one more; of 0 they do not matter.
func TestDivAtTheLimit(t *testing.T) {
	for _, p := range []int{1, 2, 64, 65, 1000, api.MaxPrec} {
		n := maxBits - p
		for _, b := range []*big.Int{allOnes(n - 1), allOnes(n), plus(pow2(n-1), 1), allOnes(n + 1), plus(pow2(n), 1), pow2(n), pow2(maxBits - 1), new(big.Int).Lsh(allOnes(n), uint(p))} {
			for _, a := range []*big.Int{big.NewInt(1), big.NewInt(-3), allOnes(n), allOnes(maxBits), plus(pow2(maxBits-1), 1), big.NewInt(0)} {
				divides(t, dyadOf(a, 7), dyadOf(negative(b), -7), p)
			}
		}
	}
	for _, z := range zeros() {
		divides(t, z, dyadOf(allOnes(maxBits), far), api.MaxPrec)
		divides(t, z, dyadOf(allOnes(maxBits), -far), 1)
	}
}

// P5.3: quotients whose exponents are at the bounds, and further; the exponents of what is divided may be too far when it is normal.
func TestDivOutOfBounds(t *testing.T) {
	for d := -9; d <= 9; d++ {
		for _, p := range []int{1, 4, 5, 64} {
			for _, e := range []int{9, 10, far / 2, far - 10} {
				divides(t, small(1, e), small(3, e-far+d), p)
				divides(t, small(-45, -e), small(1, far-e+d), p)
				divides(t, small(45, e), small(-1, e-far+d), p)
				divides(t, small(-1, -e), small(7, far-e-d), p)
			}
		}
	}
	for _, a := range append(tooFar(), small(1, far), small(1, -far)) {
		for _, b := range append(tooFar(), small(1, far), small(3, -far)) {
			divides(t, a, b, 9)
			divides(t, b, a, 9)
		}
	}
}

// P5.3: wrong inputs: 0 as the divisor, in any way, also of 0; p that is none, also where b has no room for it, or the result would not be valid.
func TestDivWrong(t *testing.T) {
	for _, up := range directions() {
		for _, a := range []api.Dyad{small(0, 0), small(1, 0), small(-1, -far), small(2, far), dyadOf(allOnes(maxBits), 1)} {
			for _, z := range zeros() {
				got, e := dyad.Div(a, z, 5, up)
				fails(t, api.ErrArg, got, e, "Div", a, z)
			}
			for _, p := range wrongPrecisions() {
				for _, b := range []api.Dyad{small(1, 0), small(-3, far), dyadOf(allOnes(maxBits), 0), small(0, 0)} {
					got, e := dyad.Div(a, b, p, up)
					fails(t, api.ErrArg, got, e, "Div", a, b)
				}
			}
		}
	}
}
