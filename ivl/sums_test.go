package ivl_test

import (
	"math/big"
	"math/rand/v2"
	"slices"
	"testing"

	"stepstone/api"
	"stepstone/ivl"
)

// call is one with two intervals, or with the first one of both alone, to p bits.
type call struct {
	name string
	two  bool
	do   func(a, b api.Ivl, p int) api.Ivl
	want func(a, b span, p int) result
}

func calls() []call {
	return []call{
		{"Add", true, ivl.Add, wantSum},
		{"Sub", true, ivl.Sub, wantDifference},
		{"Mul", true, ivl.Mul, wantProduct},
		{"Div", true, ivl.Div, wantQuotient},
		{"Sqr", false, func(a, _ api.Ivl, p int) api.Ivl { return ivl.Sqr(a, p) }, wantSquare},
	}
}

func computes(t *testing.T, a, b api.Ivl, p int) {
	t.Helper()
	x, y := spanOf(a), spanOf(b)
	for _, c := range calls() {
		isResult(t, c.want(x, y, p), c.do(a, b, p), c.name, p, a, b)
	}
}

// P7.3 to P7.5: the chapter's examples, and others by hand.
func TestByHand(t *testing.T) {
	for _, c := range []struct {
		do         func(a, b api.Ivl, p int) api.Ivl
		a, b, want string
		p          int
	}{
		{ivl.Add, "1 2", "3 5", "1p2 1p3", 2}, {ivl.Add, "1 2", "3 5", "4 7", 3}, {ivl.Add, "1 2", "3 5", "1p2 1p3", 1}, {ivl.Add, "-1 2", "-3 5", "-4 7", 9}, {ivl.Add, "-5 -4", "-4 -3", "-3p2 -3p1", 2}, {ivl.Add, "0 0", "0 0", "0 0", 1}, {ivl.Add, "-1 1", "-1 1", "-2 2", 1}, {ivl.Add, "5 5", "-5 -5", "0 0", 1}, {ivl.Add, "7 7", "0 0", "3p1 1p3", 2},
		{ivl.Sub, "1 2", "3 5", "-4 -1", 9}, {ivl.Sub, "3 5", "1 2", "1 4", 9}, {ivl.Sub, "3 5", "3 5", "-2 2", 9}, {ivl.Sub, "5 5", "5 5", "0 0", 9}, {ivl.Sub, "10 10", "1 1", "1p3 5p1", 3}, {ivl.Sub, "1 1", "10 10", "-5p1 -1p3", 3}, {ivl.Sub, "0 0", "-1 3", "-3 1", 2},
		{ivl.Mul, "-1 2", "3 4", "-4 8", 9}, {ivl.Mul, "-1 2", "-3 4", "-6 8", 9}, {ivl.Mul, "-2 1", "-3 4", "-8 6", 9}, {ivl.Mul, "-2 -1", "-4 -3", "3 8", 9}, {ivl.Mul, "-2 -1", "3 4", "-8 -3", 9}, {ivl.Mul, "1 2", "-4 -3", "-8 -3", 9}, {ivl.Mul, "1 2", "-4 3", "-8 6", 9}, {ivl.Mul, "-2 -1", "-4 3", "-6 8", 9}, {ivl.Mul, "0 0", "-4 3", "0 0", 9}, {ivl.Mul, "0 2", "-4 3", "-8 6", 9}, {ivl.Mul, "0 2", "-4 -3", "-8 0", 9}, {ivl.Mul, "3 3", "3 3", "1p3 5p1", 3}, {ivl.Mul, "3 3", "-3 -3", "-5p1 -1p3", 3},
		{ivl.Div, "1 1", "3 3", "5p-4 11p-5", 4}, {ivl.Div, "-1 -1", "3 3", "-11p-5 -5p-4", 4}, {ivl.Div, "1 1", "-3 -3", "-11p-5 -5p-4", 4}, {ivl.Div, "1 1", "0 0", "!", 4}, {ivl.Div, "0 0", "0 0", "!", 4}, {ivl.Div, "-1 1", "0 0", "!", 4}, {ivl.Div, "1 1", "-1 1", "?", 4}, {ivl.Div, "1 1", "0 1", "?", 4}, {ivl.Div, "1 1", "-1 0", "?", 4}, {ivl.Div, "0 0", "-1 1", "?", 4}, {ivl.Div, "0 0", "0 1p-200", "?", 4}, {ivl.Div, "0 0", "-1p-200 0", "?", 4}, {ivl.Div, "0 0", "3 7", "0 0", 4}, {ivl.Div, "1 2", "1 4", "1p-2 2", 4}, {ivl.Div, "-1 2", "1 4", "-1 2", 4}, {ivl.Div, "-1 2", "-4 -1", "-2 1", 4}, {ivl.Div, "-2 -1", "-4 -1", "1p-2 2", 4}, {ivl.Div, "-2 -1", "1 4", "-2 -1p-2", 4}, {ivl.Div, "1 2", "-4 -1", "-2 -1p-2", 4}, {ivl.Div, "0 2", "1p-3 4", "0 16", 4}, {ivl.Div, "7 9", "3 3", "2 4", 1}, {ivl.Div, "1 1", "1p-200 1p-200", "1p200 1p200", 1},
	} {
		is(t, known(c.want), c.do(known(c.a), known(c.b), c.p), "the call by hand", known(c.a), known(c.b))
	}
}

// P7.4: squares of intervals of each sign, and around 0, by hand.
func TestSqrByHand(t *testing.T) {
	for _, c := range []struct {
		a, want string
		p       int
	}{
		{"-1 2", "0 4", 9}, {"-2 1", "0 4", 9}, {"-3 3", "0 9", 9}, {"1 2", "1 4", 9}, {"-2 -1", "1 4", 9}, {"0 3", "0 9", 9}, {"-3 0", "0 9", 9}, {"0 0", "0 0", 1}, {"-3 -3", "9 9", 9}, {"3 3", "1p3 5p1", 3}, {"3 3", "1p3 1p4", 1}, {"-3 5", "0 1p5", 2}, {"-5 -3", "1p3 1p5", 2}, {"-1p-9 3p-10", "0 9p-20", 9},
	} {
		is(t, known(c.want), ivl.Sqr(known(c.a), c.p), "Sqr", known(c.a))
	}
}

// P7.3: 0 minus the bounds, the other way round, of as many bits as they have.
func TestNeg(t *testing.T) {
	for _, c := range []struct{ a, want string }{{"1 2", "-2 -1"}, {"-1 2", "-2 1"}, {"-3 -1", "1 3"}, {"0 0", "0 0"}, {"0 5", "-5 0"}, {"-5p-9 0", "0 5p-9"}, {"7 7", "-7 -7"}, {"?", "?"}, {"!", "!"}} {
		is(t, known(c.want), ivl.Neg(known(c.a)), "Neg", known(c.a))
	}
	for _, a := range slices.Concat(ordinary(), extreme()) {
		want := some(number(new(big.Float).Neg(value(a.Hi))), number(new(big.Float).Neg(value(a.Lo))))
		is(t, want, ivl.Neg(a), "Neg", a)
		is(t, a, ivl.Neg(ivl.Neg(a)), "Neg of Neg", a)
	}
}

// P7.3 to P7.5: all pairs of ordinary intervals.
func TestComputes(t *testing.T) {
	for i, a := range ordinary() {
		for j, b := range ordinary() {
			for _, p := range []int{1, 2, 3, 4, 53, 64, 65, 130, 300} {
				// All pairs to few bits; to each number of bits some pairs.
				if p < 3 || (i+j)%7 == p%7 {
					computes(t, a, b, p)
				}
			}
		}
	}
	g := rand.New(rand.NewPCG(7, 1))
	for range 15000 {
		computes(t, anyKnown(g), anyKnown(g), 1+g.IntN(200))
	}
}

// P7.3 to P7.5: results that have just p bits, one less and one more, on either side.
func TestToBits(t *testing.T) {
	for _, p := range []int{1, 2, 3, 63, 64, 65, 200, 1000} {
		for _, m := range []*big.Int{allOnes(p), plus(pow2(p-1), 1), pow2(p), plus(pow2(p), 1), allOnes(p + 1), plus(pow2(p+1), 1), plus(pow2(p+1), -2)} {
			for _, a := range []api.Ivl{some(odd(m, -3), odd(m, -3)), some(odd(new(big.Int).Neg(m), 5), odd(m, 0))} {
				for _, b := range knowns("0 0", "1 1", "-1 -1", "-1 1", "1p5 1p5", "3 3") {
					for _, q := range []int{p - 1, p, p + 1} {
						if q > 0 {
							computes(t, a, b, q)
							computes(t, b, a, q)
						}
					}
				}
			}
		}
	}
}

// P7.3 to P7.5: MaxPrec bits.
func TestToMostBits(t *testing.T) {
	for _, m := range []*big.Int{allOnes(api.MaxPrec), plus(pow2(api.MaxPrec), 1), allOnes(api.MaxPrec + 1), plus(pow2(api.MaxPrec+5), -1), big.NewInt(7)} {
		for _, b := range knowns("0 0", "-1 3", "3 5") {
			computes(t, some(odd(m, 0), odd(m, 0)), b, api.MaxPrec)
			computes(t, some(odd(new(big.Int).Neg(m), -api.MaxPrec), odd(m, -api.MaxPrec)), b, api.MaxPrec)
		}
	}
	for _, a := range knowns("1 1", "-1 2", "5 7") {
		computes(t, a, known("3 7"), api.MaxPrec)
	}
}

// P7.3 to P7.5: bounds of 2048 limbs, exponents at the bounds: what layer 5 does not have is not known.
func TestComputesExtremes(t *testing.T) {
	l := slices.Concat(extreme(), knowns("0 0", "1 1", "-1 1", "-3 -1", "2 3"))
	for _, a := range l {
		for _, b := range l {
			computes(t, a, b, 2)
			computes(t, a, b, 70)
		}
		computes(t, a, a, 1)
	}
}

// P7.3 to P7.5: what leaves layer 5's bounds, on the way or by being rounded, by hand: one further is not known any more.
func TestNotKnownByHand(t *testing.T) {
	add, sub, mul, div := ivl.Add, ivl.Sub, ivl.Mul, ivl.Div
	sqr := func(a, _ api.Ivl, p int) api.Ivl { return ivl.Sqr(a, p) }
	for _, c := range []struct {
		do         func(a, b api.Ivl, p int) api.Ivl
		a, b, want string
		p          int
	}{
		{add, "1p1048576 1p1048576", "1p1048576 1p1048576", "?", 9}, {add, "1p1048575 1p1048575", "1p1048575 1p1048575", "1p1048576 1p1048576", 9}, {add, "1 1p1048576", "1 1p1048576", "?", 9}, {add, "-1p1048576 1", "-1p1048576 1", "?", 9}, {add, "1p1048576 1p1048576", "0 0", "1p1048576 1p1048576", 9},
		{add, "1 1", "1p131072 1p131072", "?", 9}, {add, "1 1", "1p131071 1p131071", "1p131071 257p131063", 9}, {add, "-1 1", "-1p131072 1", "?", 9}, {add, "-1 1", "-1 1p131072", "?", 9}, {add, "1p-131071 1p-131071", "1 1", "1 3p-1", 2}, {add, "1p-131072 1p-131072", "1 1", "?", 2},
		{sub, "1p1048576 1p1048576", "-1p1048576 -1p1048576", "?", 9}, {sub, "1p1048576 1p1048576", "1p1048576 1p1048576", "0 0", 9}, {sub, "1 1", "1p131072 1p131072", "?", 9}, {sub, "0 0", "1p-131072 1p131072", "-1p131072 -1p-131072", 9},
		// To fewer bits up, or down, the exponent grows.
		{add, "3p1048576 3p1048576", "0 0", "?", 1}, {add, "3p1048576 3p1048576", "0 0", "3p1048576 3p1048576", 2}, {add, "3p1048575 3p1048575", "0 0", "?", 1}, {add, "3p1048574 3p1048574", "0 0", "1p1048575 1p1048576", 1}, {add, "-3p1048575 -3p1048575", "0 0", "?", 1}, {sub, "0 0", "3p1048575 3p1048575", "?", 1},
		{mul, "1p524288 1p524288", "1p524288 1p524288", "1p1048576 1p1048576", 9}, {mul, "1p524288 1p524288", "1p524289 1p524289", "?", 9}, {mul, "1p-524288 1p-524288", "1p-524288 1p-524288", "1p-1048576 1p-1048576", 9}, {mul, "1p-524288 1p-524288", "1p-524289 1p-524289", "?", 9}, {mul, "-1p-1048576 1", "1p-1 1p-1", "?", 9}, {mul, "-1 1p-1048576", "1p-1 1p-1", "?", 9}, {mul, "1p-1048576 1p1048576", "0 0", "0 0", 9}, {mul, "3p1048574 3p1048574", "1 1", "1p1048575 1p1048576", 1}, {mul, "3p1048575 3p1048575", "1 1", "?", 1},
		{sqr, "1p524288 1p524288", "0", "1p1048576 1p1048576", 9}, {sqr, "1p524289 1p524289", "0", "?", 9}, {sqr, "1 1p524289", "0", "?", 9}, {sqr, "-1p524289 -1", "0", "?", 9}, {sqr, "-1p524289 1", "0", "?", 9}, {sqr, "1p-524289 1", "0", "?", 9}, {sqr, "-1 -1p-524289", "0", "?", 9}, {sqr, "1p-524288 1", "0", "1p-1048576 1", 9},
		{div, "1p1048576 1p1048576", "1p-1 1p-1", "?", 9}, {div, "1p1048576 1p1048576", "1 1", "1p1048576 1p1048576", 9}, {div, "1p-1048576 1p-1048576", "1p1 1p1", "?", 9}, {div, "1p-1048576 1", "2 2", "?", 9}, {div, "-1 -1p-1048576", "2 2", "?", 9}, {div, "1 1p1048576", "1p-1 1p-1", "?", 9}, {div, "1 1p524288", "1p-524289 1", "?", 9}, {div, "1 1p524288", "1p-524288 1", "1 1p1048576", 9}, {div, "3p1048575 3p1048575", "1 1", "?", 1}, {div, "3p1048574 3p1048574", "1 1", "1p1048575 1p1048576", 1}, {div, "0 0", "3p1048576 5p1048576", "0 0", 9},
	} {
		is(t, known(c.want), c.do(known(c.a), known(c.b), c.p), "the call by hand", known(c.a), known(c.b))
	}
}

// P7.5: b of so many bits that layer 5 has no quotient, but of 0.
func TestDivByLong(t *testing.T) {
	m := plus(pow2(maxBits-100), 1)
	b := some(odd(m, 0), odd(m, 0))
	for _, a := range knowns("0 0", "1 1", "-1 1", "0 3", "-3 0") {
		for _, p := range []int{98, 99, 100, 101, 1000} {
			computes(t, a, b, p)
			computes(t, a, ivl.Neg(b), p)
			computes(t, a, some(small(1, 0), b.Hi), p)
		}
	}
	is(t, known("0 0"), ivl.Div(known("0 0"), b, 1000), "Div", known("0 0"), b)
	is(t, unknown(), ivl.Div(known("1 1"), b, 100), "Div", known("1 1"), b)
	if got := ivl.Div(known("1 1"), b, 99); got.Kind != api.IvSome {
		t.Errorf("Div by %s to 99 bits = %s", shown(b), shown(got))
	}
}
