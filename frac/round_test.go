package frac_test

import (
	"math"
	"math/big"
	"math/rand/v2"
	"slices"
	"testing"

	"stepstone/api"
	"stepstone/dyad"
	"stepstone/frac"
)

func directions() []bool { return []bool{false, true} }

func floorOf(x *big.Rat) *big.Int {
	// The library's Div rounds down where the divisor is above 0, as denominators are.
	return new(big.Int).Div(x.Num(), x.Denom())
}

func isInt(t *testing.T, want *big.Int, got api.Int, e api.Errno, what string, of api.Frac) {
	t.Helper()
	if n := bigOf(got); e != api.OK || n.Cmp(want) != 0 || len(got.M) != (n.BitLen()+63)/64 || got.Neg != (n.Sign() < 0) {
		t.Errorf("%s of %s = %s, error %d, want %s, normal", what, shown(of), shown(api.Frac{N: got}), e, shown(api.Frac{N: intOf(want)}))
	}
}

// P6.3: the greatest integer that is not above the number: whole ones and others, below 0 and above.
func TestFloor(t *testing.T) {
	for n := int64(-30); n <= 30; n++ {
		for d := int64(1); d <= 9; d++ {
			got, e := frac.Floor(small(n, d))
			isInt(t, big.NewInt(int64(math.Floor(float64(n)/float64(d)))), got, e, "Floor", small(n, d))
		}
	}
	check := func(a api.Frac) {
		t.Helper()
		got, e := frac.Floor(a)
		isInt(t, floorOf(valueOf(a)), got, e, "Floor", a)
	}
	for _, a := range slices.Concat(someFracs(), zeros(), longFracs()) {
		check(a)
		check(padded(a, 3))
	}
	check(turned(fracOf(new(big.Int), allOnes(maxBits))))
	anyPairs(65, 10000, 6, func(a, b api.Frac) { check(a) })
}

// dyadValue is the number of a dyadic one whose exponent is not too far.
func dyadValue(a api.Dyad) *big.Rat {
	m := bigOf(a.M)
	if a.E >= 0 {
		return new(big.Rat).SetInt(m.Lsh(m, uint(a.E)))
	}
	return new(big.Rat).SetFrac(m, pow2(-a.E))
}

// isExact checks Exact: where a power of two is too long only as M is 0, or not odd, either answer will do.
func isExact(t *testing.T, a api.Dyad) {
	t.Helper()
	got, e := frac.Exact(a)
	want := dyadValue(a)
	of := api.Frac{N: a.M, D: api.Nat{uint64(a.E)}}
	if anyTooLong(want.Num(), want.Denom()) || e != api.OK && a.E <= -maxBits {
		fails(t, api.ErrLong, got, e, "Exact", of)
		return
	}
	isFrac(t, want, got, e, "Exact", of)
}

// P6.3: dyadic numbers with E above, at and below 0, odd and even, of both signs, and 0 with any E.
func TestExact(t *testing.T) {
	for _, c := range []struct {
		m    int64
		e    int
		want *big.Rat
	}{{3, 2, big.NewRat(12, 1)}, {-3, -2, big.NewRat(-3, 4)}, {5, 0, big.NewRat(5, 1)}, {12, -2, big.NewRat(3, 1)}, {12, -3, big.NewRat(3, 2)}, {-4, -5, big.NewRat(-1, 8)}, {0, 7, new(big.Rat)}, {0, -7, new(big.Rat)}} {
		got, e := frac.Exact(api.Dyad{M: intOf(big.NewInt(c.m)), E: c.e})
		isFrac(t, c.want, got, e, "Exact", small(c.m, 1))
	}
	for _, m := range []*big.Int{big.NewInt(1), big.NewInt(6), big.NewInt(-45), pow2(64), negative(pow2(200)), allOnes(128), new(big.Int).Lsh(allOnes(77), 51), big.NewInt(0)} {
		for _, e := range []int{0, 1, -1, 2, -2, 63, 64, 65, -51, -63, -64, -65, -128, -200, 1000, -1000} {
			isExact(t, api.Dyad{M: intOf(m), E: e})
			isExact(t, api.Dyad{M: padded(fracOf(m, m), 3).N, E: e})
		}
	}
	for _, z := range zeros() {
		for _, e := range []int{0, 1, -1, maxBits, 1 - maxBits, -maxBits, api.MaxExp, -api.MaxExp} {
			isExact(t, api.Dyad{M: z.N, E: e})
		}
	}
}

// P6.3: results of 2048 limbs, and of one bit more, by the numerator and by the denominator; exponents as far as may be.
func TestExactAtTheLimit(t *testing.T) {
	for _, m := range []*big.Int{big.NewInt(1), big.NewInt(-3), big.NewInt(12), pow2(64), allOnes(1000), allOnes(maxBits), negative(pow2(maxBits - 1))} {
		for d := -2; d <= 2; d++ {
			isExact(t, api.Dyad{M: intOf(m), E: maxBits - m.BitLen() + d})
			isExact(t, api.Dyad{M: intOf(m), E: -(maxBits - 1 + d)})
			isExact(t, api.Dyad{M: intOf(m), E: -(maxBits - 1 + d) - int(m.TrailingZeroBits())})
		}
	}
	for _, m := range []int64{1, -1, 3, -7, 1<<40 + 1} {
		for _, e := range []int{api.MaxExp, api.MaxExp - 1, 2 * maxBits, -2 * maxBits, 1 - api.MaxExp, -api.MaxExp} {
			got, err := frac.Exact(api.Dyad{M: intOf(big.NewInt(m)), E: e})
			fails(t, api.ErrLong, got, err, "Exact", small(m, 1))
		}
	}
	// Numbers that are valid, but not when they are normal.
	for _, m := range []int64{2, -4, 1 << 40} {
		got, err := frac.Exact(api.Dyad{M: intOf(big.NewInt(m)), E: api.MaxExp})
		if err != api.ErrArg {
			fails(t, api.ErrLong, got, err, "Exact", small(m, 1))
		}
	}
}

// P6.3: wrong inputs: dyadic numbers that are not valid.
func TestExactWrong(t *testing.T) {
	for _, e := range []int{api.MaxExp + 1, -api.MaxExp - 1, 2 * api.MaxExp, math.MaxInt, math.MinInt, math.MinInt + 1} {
		for _, m := range []int64{0, 1, -1, 8} {
			got, err := frac.Exact(api.Dyad{M: intOf(big.NewInt(m)), E: e})
			fails(t, api.ErrArg, got, err, "Exact", small(m, 1))
		}
	}
	for _, m := range tooLong() {
		for _, e := range []int{0, 5, -5, -maxBits, api.MaxExp, api.MaxExp + 1} {
			got, err := frac.Exact(api.Dyad{M: api.Int{Neg: e%2 == 0, M: m}, E: e})
			fails(t, api.ErrArg, got, err, "Exact", api.Frac{N: api.Int{M: m}})
		}
	}
}

// quotient is n / d to p bits, by the library, which rounds once.
func quotient(n, d *big.Int, p int, up bool) *big.Float {
	exactly := func(m *big.Int) *big.Float {
		return new(big.Float).SetPrec(uint(max(1, m.BitLen()))).SetInt(m)
	}
	mode := big.ToNegativeInf
	if up {
		mode = big.ToPositiveInf
	}
	return new(big.Float).SetPrec(uint(p)).SetMode(mode).Quo(exactly(n), exactly(d))
}

func oddBits(d *big.Int) int { return d.BitLen() - int(d.TrailingZeroBits()) }

func isNoDyad(t *testing.T, want api.Errno, got api.Dyad, e api.Errno, a api.Frac, p int) {
	t.Helper()
	if e != want || got.E != 0 || got.M.Neg || len(got.M.M) != 0 {
		t.Errorf("Round of %s to %d bits: error %d, E %d, %d limbs, want error %d and 0", shown(a), p, e, got.E, len(got.M.M), want)
	}
}

// rounds checks Round, also that it is layer 5's ErrBig where D and p have too many bits together. Where that is so only as N and D have a divisor in common, either answer will do.
func rounds(t *testing.T, a api.Frac, p int) {
	t.Helper()
	x := valueOf(a)
	for _, up := range directions() {
		got, e := frac.Round(a, p, up)
		tooBig := x.Sign() != 0 && oddBits(x.Denom())+p > maxBits
		if tooBig || x.Sign() != 0 && e == api.ErrBig && oddBits(bigOfNat(a.D))+p > maxBits {
			isNoDyad(t, api.ErrBig, got, e, a, p)
			continue
		}
		if e != api.OK {
			t.Errorf("Round of %s to %d bits: error %d", shown(a), p, e)
			continue
		}
		want, _ := quotient(x.Num(), x.Denom(), p, up).Rat(nil)
		if want.Cmp(dyadValue(got)) != 0 {
			t.Errorf("Round of %s to %d bits, up %v = %.100s", shown(a), p, up, dyad.Text(got))
		}
		if again, e := dyad.Norm(got); e != api.OK || again.E != got.E || len(again.M.M) != len(got.M.M) || again.M.Neg != got.M.Neg {
			t.Errorf("Round of %s to %d bits, up %v: not normal", shown(a), p, up)
		}
		roundLaws(t, x, got, p, up)
	}
}

// P6.7: down is at most the number, up at least.
func roundLaws(t *testing.T, x *big.Rat, got api.Dyad, p int, up bool) {
	t.Helper()
	c := dyadValue(got).Cmp(x)
	if up && c < 0 || !up && c > 0 {
		t.Errorf("Round to %d bits, up %v = %.100s is on the wrong side", p, up, dyad.Text(got))
	}
	if n := oddBits(bigOf(got.M)); n > p {
		t.Errorf("Round to %d bits, up %v = %.100s has %d bits", p, up, dyad.Text(got), n)
	}
}

// P6.3: some by hand: of both signs, down and up, to one bit, of just as many bits as it has.
func TestRoundByHand(t *testing.T) {
	for _, c := range []struct {
		a        api.Frac
		p        int
		down, up string
	}{
		{small(1, 3), 4, "5p-4", "11p-5"}, {small(-1, 3), 4, "-11p-5", "-5p-4"}, {small(45, 1), 3, "5p3", "3p4"}, {small(-45, 1), 3, "-3p4", "-5p3"}, {small(90, 2), 6, "45p0", "45p0"},
		{small(1, 3), 1, "1p-2", "1p-1"}, {small(-1, 3), 1, "-1p-1", "-1p-2"}, {small(3, 4), 1, "1p-1", "1p0"}, {small(3, 4), 2, "3p-2", "3p-2"}, {small(-6, 8), 2, "-3p-2", "-3p-2"}, {small(0, 6), 1, "0p0", "0p0"}, {small(7, 1), 1, "1p2", "1p3"},
	} {
		for _, up := range directions() {
			want := map[bool]string{false: c.down, true: c.up}[up]
			if got, e := frac.Round(c.a, c.p, up); e != api.OK || dyad.Text(got) != want {
				t.Errorf("Round of %s to %d bits, up %v = %s, error %d, want %s", shown(c.a), c.p, up, dyad.Text(got), e, want)
			}
		}
	}
}

// P6.3, P6.7: numbers of any kind, to any number of bits.
func TestRound(t *testing.T) {
	g := rand.New(rand.NewPCG(6, 66))
	for _, a := range slices.Concat(someFracs(), zeros()) {
		n := bigOf(a.N).BitLen()
		for _, p := range []int{1, 2, 53, 64, 65, max(1, n-1), max(1, n), n + 1, 1 + g.IntN(300)} {
			rounds(t, a, p)
		}
	}
	anyPairs(67, 10000, 6, func(a, b api.Frac) { rounds(t, a, 1+g.IntN(400)) })
	for _, a := range []api.Frac{small(1, 3), small(-22, 7), small(45, 1), small(-1, 8), small(0, 3), fracOf(power(3, 500), power(2, 900))} {
		rounds(t, a, api.MaxPrec-1)
		rounds(t, a, api.MaxPrec)
	}
}

// P6.3: numbers of 2048 limbs; D's bits, those of the odd part of it, and p, together as many as there is room for, and one more.
func TestRoundAtTheLimit(t *testing.T) {
	for _, a := range longFracs() {
		for _, p := range []int{1, 64, api.MaxPrec} {
			rounds(t, a, p)
		}
	}
	for _, p := range []int{1, 2, 65, 1000, api.MaxPrec} {
		n := maxBits - p
		for _, d := range []*big.Int{allOnes(n), plus(pow2(n-1), 1), allOnes(n + 1), plus(pow2(n), 1), pow2(n), new(big.Int).Lsh(allOnes(n), uint(p)), pow2(maxBits - 1)} {
			for _, m := range []int64{1, -1, 0} {
				rounds(t, fracOf(big.NewInt(m), d), p)
			}
		}
	}
	rounds(t, fracOf(new(big.Int), allOnes(maxBits)), api.MaxPrec)
}

// P6.3: wrong inputs: p that is none, also for 0, for numbers that are exact, and where D leaves no room.
func TestRoundWrong(t *testing.T) {
	for _, a := range []api.Frac{small(0, 1), small(1, 1), small(-45, 7), fracOf(big.NewInt(1), allOnes(maxBits)), fracOf(allOnes(maxBits), big.NewInt(1))} {
		for _, p := range []int{0, -1, -64, api.MaxPrec + 1, api.MaxPrec + 2, maxBits, math.MaxInt, math.MinInt} {
			for _, up := range directions() {
				got, e := frac.Round(a, p, up)
				isNoDyad(t, api.ErrArg, got, e, a, p)
			}
		}
	}
}

// P6.7: Exact of a dyadic number, rounded to as many bits as it has, is that number; to one bit less it is on the side that was asked for.
func TestRoundOfExact(t *testing.T) {
	g := rand.New(rand.NewPCG(6, 68))
	check := func(m *big.Int, e int) {
		t.Helper()
		a, err := dyad.Norm(api.Dyad{M: intOf(m), E: e})
		exact, exactError := frac.Exact(a)
		if err != api.OK || exactError != api.OK {
			t.Fatalf("a number of %d bits with E %d: errors %d, %d", m.BitLen(), e, err, exactError)
		}
		n := max(1, bigOf(a.M).BitLen())
		for _, up := range directions() {
			if got, e := frac.Round(exact, n, up); e != api.OK || got.E != a.E || bigOf(got.M).Cmp(bigOf(a.M)) != 0 {
				t.Errorf("Exact of %.100s, rounded to %d bits = %.100s, error %d", dyad.Text(a), n, dyad.Text(got), e)
			}
		}
		if n > 1 {
			rounds(t, exact, n-1)
		}
	}
	for range 3000 {
		m := bigOfNat(anyNat(g, 6))
		if g.IntN(2) == 0 {
			m.Neg(m)
		}
		check(m, g.IntN(800)-400)
	}
	for _, m := range []*big.Int{allOnes(api.MaxPrec), negative(plus(pow2(api.MaxPrec-1), 1)), big.NewInt(1), big.NewInt(-7)} {
		for _, e := range []int{0, 20000, -20000, maxBits - m.BitLen(), 1 - maxBits} {
			check(m, e)
		}
	}
}
