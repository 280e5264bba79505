package ivl_test

import (
	"math"
	"math/big"
	"math/rand/v2"
	"slices"
	"testing"

	"stepstone/api"
	"stepstone/ivl"
	"stepstone/zint"
)

func ratOf(a api.Dyad) *big.Rat {
	x, _ := value(a).Rat(nil)
	return x
}

func fracOfRat(x *big.Rat) api.Frac { return fracOf(x.Num(), x.Denom()) }

func has(t *testing.T, want bool, a api.Ivl, x api.Frac) {
	t.Helper()
	if got := ivl.Has(a, x); got != want {
		t.Errorf("Has of %s and %s by %s = %v", shown(a), shownNumber(api.Dyad{M: x.N}), shownNumber(api.Dyad{M: api.Int{M: x.D}}), got)
	}
}

// P7.2: numbers at either bound, just beyond it, and between both.
func TestHas(t *testing.T) {
	tiny := big.NewRat(1, 1)
	tiny.SetFrac(big.NewInt(1), new(big.Int).Mul(pow2(500), big.NewInt(7)))
	for _, a := range ordinary() {
		lo, hi := ratOf(a.Lo), ratOf(a.Hi)
		middle := new(big.Rat).Add(lo, hi)
		middle.Mul(middle, big.NewRat(1, 2))
		for _, x := range []*big.Rat{lo, hi, middle} {
			has(t, true, a, fracOfRat(x))
		}
		has(t, false, a, fracOfRat(new(big.Rat).Sub(lo, tiny)))
		has(t, false, a, fracOfRat(new(big.Rat).Add(hi, tiny)))
		inside := lo.Cmp(hi) < 0
		has(t, inside, a, fracOfRat(new(big.Rat).Add(lo, tiny)))
		has(t, inside, a, fracOfRat(new(big.Rat).Sub(hi, tiny)))
		for _, x := range []*big.Rat{new(big.Rat), big.NewRat(1, 1), big.NewRat(-1, 1), big.NewRat(1, 3), big.NewRat(-7, 3)} {
			has(t, lo.Cmp(x) <= 0 && x.Cmp(hi) <= 0, a, fracOfRat(x))
		}
	}
	// A number may be written in any way.
	has(t, true, known("1 2"), smallFrac(10, 5))
	has(t, false, known("1 2"), smallFrac(11, 5))
	has(t, true, known("0 0"), api.Frac{N: api.Int{Neg: true, M: api.Nat{0}}, D: api.Nat{9, 0}})
}

// P7.2: nothing known holds each number, what is not defined none; a number, or an interval, that is not valid is held by none, or holds none.
func TestHasWithoutBounds(t *testing.T) {
	numbers := []api.Frac{smallFrac(0, 1), smallFrac(0, 5), smallFrac(1, 1), smallFrac(-7, 3), fracOf(allOnes(maxBits), big.NewInt(1)), fracOf(big.NewInt(1), allOnes(maxBits)), fracOf(allOnes(maxBits), plus(pow2(maxBits-1), 2))}
	for _, x := range numbers {
		has(t, true, unknown(), x)
		has(t, false, undef(), x)
		for _, a := range notValid() {
			has(t, false, a, x)
		}
	}
	for _, x := range notFracs() {
		for _, a := range slices.Concat(ordinary(), knowns("?", "!"), extreme()[:3]) {
			has(t, false, a, x)
		}
	}
}

// P7.2: as far as layer 6 has the bounds, and can hold the number against them.
func TestHasTooLong(t *testing.T) {
	for _, c := range []struct {
		a    string
		n, d int64
		want bool
	}{
		{"1 1p131071", 7, 1, true}, {"1 1p131072", 7, 1, false}, {"-1p131072 1", 0, 1, false}, {"1p-131071 1", 1, 1, true}, {"1p-131072 1", 1, 1, false}, {"-1 -1p-131072", -1, 1, false}, {"-1p1048576 1p1048576", 0, 1, false}, {"0 1p-1048576", 0, 1, false}, {"1p131070 1p131071", 7, 1, false}, {"1 1p131071", 7, 3, false}, {"-1p131071 1", 1, 3, false}, {"1 1p131070", 7, 2, true}, {"1p-131071 1", 2, 1, false},
	} {
		has(t, c.want, known(c.a), smallFrac(c.n, c.d))
	}
	full := allOnes(maxBits)
	has(t, true, known("0 1"), fracOf(big.NewInt(1), full))
	has(t, true, known("-1 1"), fracOf(big.NewInt(-1), full))
	has(t, false, known("0 3"), fracOf(big.NewInt(1), full))
	has(t, true, known("0 1"), fracOf(plus(full, -1), full))
	has(t, true, some(odd(full, 0), odd(full, 0)), fracOf(full, big.NewInt(1)))
}

func narrow(t *testing.T, want bool, a api.Ivl, d api.Dyad) {
	t.Helper()
	if got := ivl.Narrow(a, d); got != want {
		t.Errorf("Narrow of %s by %s = %v", shown(a), shownNumber(d), got)
	}
}

// P7.2: d of 0, below 0, of just the width, and just beside it; in whatever way it is written.
func TestNarrow(t *testing.T) {
	for _, c := range []struct {
		a, d string
		want bool
	}{
		{"1 3", "2", true}, {"1 3", "3", true}, {"1 3", "1", false}, {"1 3", "0", false}, {"1 3", "-2", false}, {"1 1", "0", true}, {"1 1", "1p-1048576", true}, {"1 1", "-1p-1048576", false}, {"0 0", "0", true}, {"0 0", "-1", false}, {"-1 1", "2", true}, {"-1 1", "15p-3", false}, {"-3 -1", "2", true}, {"-3 -1", "1", false}, {"0 1p-1048576", "1p-1048576", true}, {"0 3p-1048576", "1p-1048576", false}, {"0 1p1048576", "1p1048576", true}, {"0 3p1048576", "1p1048576", false}, {"1p1048576 1p1048576", "0", true}, {"3 5", "-1p1048576", false}, {"3 5", "1p1048576", true},
	} {
		narrow(t, c.want, known(c.a), num(c.d))
	}
	for _, d := range []api.Dyad{small(2, 0), small(4, -1), {M: api.Int{M: api.Nat{2, 0, 0}}}, small(8, -2)} {
		narrow(t, true, known("1 3"), d)
		narrow(t, false, known("1 4"), d)
	}
	for _, d := range []api.Dyad{{E: 7}, {E: -far}, {M: api.Int{Neg: true, M: api.Nat{0}}}} {
		narrow(t, true, known("3 3"), d)
		narrow(t, false, known("3 4"), d)
	}
	tiny := big.NewFloat(1)
	tiny.SetMantExp(tiny, -1000)
	for _, a := range ordinary() {
		width, _ := difference(value(a.Hi), value(a.Lo))
		more, _ := sum(width, tiny)
		less, _ := difference(width, tiny)
		narrow(t, true, a, number(width))
		narrow(t, true, a, number(more))
		narrow(t, false, a, number(less))
		narrow(t, width.Sign() == 0, a, api.Dyad{})
		narrow(t, false, a, small(-1, -far))
	}
}

// P7.2: wrong inputs: without bounds, not valid, by a number that is not; and bounds that are too far apart for layer 5, which are not at most what is less than their distance.
func TestNarrowWrong(t *testing.T) {
	for _, d := range []api.Dyad{{}, small(1, 0), small(1, far)} {
		for _, a := range append(notValid(), unknown(), undef()) {
			narrow(t, false, a, d)
		}
	}
	for _, d := range []api.Dyad{small(1, far+1), small(1, -far-1), {E: far + 1}, {E: -far - 1}, small(1, math.MaxInt), written(pow2(maxBits), 0)} {
		for _, a := range append(ordinary(), unknown(), undef()) {
			narrow(t, false, a, d)
		}
	}
	for _, a := range knowns("1 1p131072", "-1 1p131072", "1p-131072 1", "-1p1048576 1p1048576", "1p-1048576 1p1048576", "-1p1048576 -1p-1048576") {
		for _, s := range []string{"0", "-1", "1p-2", "-1p1048576"} {
			narrow(t, false, a, num(s))
		}
	}
}

// floored is a number divided by 2^e, rounded down.
func floored(x api.Dyad, e int) *big.Int {
	m := bigOf(x.M)
	if x.E >= e {
		return m.Lsh(m, uint(x.E-e))
	}
	return m.Rsh(m, uint(e-x.E))
}

func isInt(got api.Int, want *big.Int) bool {
	return bigOf(got).Cmp(want) == 0 && len(got.M) == (want.BitLen()+63)/64 && got.Neg == (want.Sign() < 0)
}

// halfInUnits is what Grid is to return, and whether there may be a result, and may be none. There may be none of what is right where layer 5 does not have half of the sum, or the whole sum in units of 2^e, or units twice as great.
func halfInUnits(a api.Ivl, e int) (half *big.Int, may, mayBeNone bool) {
	s, ok := sum(value(a.Lo), value(a.Hi))
	total := number(s)
	if !ok || e < -far-1 || e > far {
		return nil, false, true
	}
	if s.Sign() == 0 {
		return new(big.Int), true, e == far || e < -far
	}
	if s.MantExp(nil)-1-e > maxBits {
		return nil, false, true
	}
	half = floored(total, e+1)
	return half, half.BitLen() <= maxBits, e == far || e < -far || total.E == -far || floored(total, e).BitLen() > maxBits
}

func grids(t *testing.T, a api.Ivl, e int) {
	t.Helper()
	got, ok := ivl.Grid(a, e)
	half, may, mayBeNone := halfInUnits(a, e)
	if ok && (!may || !isInt(got, half)) || !ok && (!mayBeNone || !isInt(got, new(big.Int))) {
		t.Errorf("Grid of %s by %d = %s, %v, want %v", shown(a), e, shownNumber(api.Dyad{M: got}), ok, half)
	}
}

// P7.7: by hand: sums that are odd, and below 0.
func TestGridByHand(t *testing.T) {
	for _, c := range []struct {
		a    string
		e    int
		want string
	}{
		{"1 2", 0, "1"}, {"-2 -1", 0, "-2"}, {"-2 1", 0, "-1"}, {"-1 2", 0, "0"}, {"3 3", 0, "3"}, {"-3 -3", 0, "-3"}, {"1 2", -1, "3"}, {"-2 -1", -1, "-3"}, {"1 2", -2, "6"}, {"1 2", 1, "0"}, {"-2 -1", 1, "-1"}, {"-2 -1", 60, "-1"}, {"5 6", 1, "2"}, {"-6 -5", 1, "-3"}, {"-8 -4", 1, "-3"}, {"-8 -5", 1, "-4"}, {"0 0", 0, "0"}, {"0 0", 1000, "0"}, {"-7 7", -5, "0"}, {"1p-1 3p-1", 0, "1"}, {"-3p-1 -1p-1", 0, "-1"}, {"-5p-2 -1p-1", 0, "-1"}, {"1p100 1p100", 99, "2"}, {"-1 1p100", 99, "0"}, {"0 1p100", 99, "1"}, {"1 1p100", -1, "1267650600228229401496703205377"}, {"1p-1048575 1p-1048575", -1048576, "2"},
	} {
		want, _ := new(big.Int).SetString(c.want, 10)
		if got, ok := ivl.Grid(known(c.a), c.e); !ok || !isInt(got, want) {
			t.Errorf("Grid of %s by %d = %s, %v", c.a, c.e, zint.Text(got), ok)
		}
	}
}

// P7.7: e of all signs, about the exponents of both bounds, and of their sum.
func TestGrid(t *testing.T) {
	for _, a := range slices.Concat(ordinary(), extreme()) {
		s, _ := sum(value(a.Lo), value(a.Hi))
		for _, middle := range []int{0, a.Lo.E, a.Hi.E, number(s).E, s.MantExp(nil), s.MantExp(nil) - maxBits} {
			for d := -3; d <= 3; d++ {
				grids(t, a, middle+d)
			}
		}
		for _, e := range []int{far - 1, far, far + 1, -far, -far - 1, -far - 2, -far + 1, math.MaxInt, math.MaxInt - 1, math.MinInt, math.MinInt + 1, 64, -64, 200, -200} {
			grids(t, a, e)
		}
	}
	g := rand.New(rand.NewPCG(7, 2))
	for range 20000 {
		grids(t, anyKnown(g), g.IntN(300)-150)
	}
}

// P7.7: integers of 2048 limbs, and of one bit more.
func TestGridAtTheLimit(t *testing.T) {
	for _, m := range []*big.Int{big.NewInt(1), big.NewInt(3), allOnes(64), allOnes(maxBits - 1)} {
		n := maxBits - m.BitLen()
		for _, e := range []int{0, 5, -7, far - maxBits, -far + maxBits} {
			for d := -3; d <= 3; d++ {
				x, y := odd(m, e), odd(new(big.Int).Neg(m), e)
				grids(t, some(x, x), e-n-d)
				grids(t, some(y, y), e-n-d)
				grids(t, some(api.Dyad{}, x), e-n-d)
			}
		}
	}
}

// P7.7: none without bounds, of what is not valid, by an e that is none, and of a sum that layer 5 does not have.
func TestGridWrong(t *testing.T) {
	isNone := func(a api.Ivl, e int) {
		t.Helper()
		if got, ok := ivl.Grid(a, e); ok || !isInt(got, new(big.Int)) {
			t.Errorf("Grid of %s by %d = %s, %v", shown(a), e, shownNumber(api.Dyad{M: got}), ok)
		}
	}
	for _, a := range append(notValid(), unknown(), undef()) {
		for _, e := range []int{0, -5, far} {
			isNone(a, e)
		}
	}
	for _, a := range knowns("0 0", "1 2", "-1p1048576 -1p1048576", "1p-1048576 1p-1048576") {
		for _, e := range []int{far + 1, -far - 2, math.MaxInt, math.MinInt} {
			isNone(a, e)
		}
	}
	for _, a := range knowns("1p1048576 1p1048576", "-1p1048576 -1p1048576", "1 1p131072", "-1p131072 1", "-1p1048576 1p-1048576") {
		for _, e := range []int{0, far, 1000} {
			isNone(a, e)
		}
	}
	for _, a := range knowns("1 1", "-1 0", "0 1") {
		isNone(a, -far)
		isNone(a, -maxBits-1)
	}
}
