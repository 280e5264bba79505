package ivl_test

import (
	"math"
	"math/big"
	"slices"
	"testing"

	"stepstone/api"
	"stepstone/ivl"
)

// P7.1: intervals of all kinds are valid, bounds of 2048 limbs and exponents at the bounds among them; no limbs are 0, in whatever list.
func TestCheck(t *testing.T) {
	l := slices.Concat(ordinary(), extreme(), knowns("?", "!", "1p1048576 1p1048576", "-1p1048576 1p-1048576", "1p-1048576 1p-1048576"))
	empty := api.Dyad{M: api.Int{M: api.Nat{}}}
	spare := api.Dyad{M: api.Int{M: api.Nat{7, 7}[:0]}}
	for _, kind := range []uint8{api.IvUnknown, api.IvSome, api.IvUndef} {
		l = append(l, api.Ivl{Kind: kind, Lo: empty, Hi: spare}, api.Ivl{Kind: kind, Hi: empty}, api.Ivl{Kind: kind, Lo: spare})
	}
	l = append(l, some(small(-3, 2), empty), some(spare, small(3, 2)), some(odd(allOnes(maxBits), far), odd(allOnes(maxBits), far)))
	for _, a := range l {
		if !ivl.Check(a) {
			t.Errorf("Check of %s: false", shown(a))
		}
	}
}

// P7.1: wrong inputs.
func TestCheckWrong(t *testing.T) {
	for _, a := range notValid() {
		if ivl.Check(a) {
			t.Errorf("Check of %s: true", shown(a))
		}
	}
}

func fails(t *testing.T, want api.Errno, lo, hi api.Dyad) {
	t.Helper()
	if got, e := ivl.Make(lo, hi); e != want || !same(got, unknown()) {
		t.Errorf("Make of %s and %s = %s, error %d, want error %d", shownNumber(lo), shownNumber(hi), shown(got), e, want)
	}
}

// P7.1: Make returns both bounds, normal, if they are in order.
func TestMake(t *testing.T) {
	numbers := []api.Dyad{{}, {E: 5}, {M: api.Int{Neg: true, M: make(api.Nat, 3000)}, E: -far}, small(1, 0), small(2, 0), small(4, -1), small(-6, 3), small(-3, 4), small(1, far), small(-4, far-2), small(1, -far), small(2, -far), small(-2, -far), written(pow2(200), -100), written(plus(pow2(200), 2), -100), {M: api.Int{M: api.Nat{12, 0, 0}}, E: 2}, written(allOnes(maxBits), 0), written(plus(pow2(maxBits-1), 2), 0)}
	for _, lo := range numbers {
		for _, hi := range numbers {
			if value(lo).Cmp(value(hi)) > 0 {
				fails(t, api.ErrArg, lo, hi)
				continue
			}
			got, e := ivl.Make(lo, hi)
			if want := some(number(value(lo)), number(value(hi))); e != api.OK || !same(got, want) {
				t.Errorf("Make of %s and %s = %s, error %d", shownNumber(lo), shownNumber(hi), shown(got), e)
			}
			if !ivl.Check(got) {
				t.Errorf("Make of %s and %s is not valid", shownNumber(lo), shownNumber(hi))
			}
		}
	}
}

// P7.1: bounds that are not valid, or not when they are normal, come ahead of a wrong order.
func TestMakeWrong(t *testing.T) {
	wrong := []api.Dyad{small(2, far), small(-2, far), small(1, far+1), small(-1, far+1), small(1, -far-1), small(-1, -far-1), small(4, -far-2), small(1, math.MaxInt), small(1, math.MinInt), {E: far + 1}, {E: -far - 1}, written(plus(pow2(maxBits), 1), 0), written(new(big.Int).Neg(pow2(maxBits)), -5)}
	for _, x := range wrong {
		for _, y := range append([]api.Dyad{{}, small(1, 0), small(-1, 0), small(3, far), small(-3, far), small(1, -far)}, wrong...) {
			fails(t, api.ErrBig, x, y)
			fails(t, api.ErrBig, y, x)
		}
	}
}

// P7.1: Of is the interval from n to n, to both ends of its range.
func TestOf(t *testing.T) {
	for _, n := range []int64{0, 1, -1, 2, -2, 7, -12, 1 << 32, -1 << 32, 3 << 61, math.MaxInt64 - 1, math.MaxInt64, -math.MaxInt64, math.MinInt64 + 1, math.MinInt64} {
		x := odd(big.NewInt(n), 0)
		is(t, some(x, x), ivl.Of(n), "Of", some(x, x))
	}
}

func fracOf(n, d *big.Int) api.Frac {
	return api.Frac{N: written(n, 0).M, D: natOf(d)}
}

func smallFrac(n, d int64) api.Frac { return fracOf(big.NewInt(n), big.NewInt(d)) }

// notFracs are none.
func notFracs() []api.Frac {
	long := pow2(maxBits)
	return []api.Frac{{}, smallFrac(1, 0), smallFrac(0, 0), {N: smallFrac(-1, 1).N, D: make(api.Nat, 3)}, fracOf(long, big.NewInt(1)), fracOf(big.NewInt(1), long), fracOf(new(big.Int), long), fracOf(long, long), {N: api.Int{Neg: true}}}
}

func nears(t *testing.T, n, d *big.Int, p int) {
	t.Helper()
	x := new(big.Float).SetPrec(uint(n.BitLen() + 1)).SetInt(n)
	y := new(big.Float).SetPrec(uint(d.BitLen())).SetInt(d)
	want := result{api.IvSome, bounded(quotient(x, y, p, false)), bounded(quotient(x, y, p, true)), true}
	isResult(t, want, ivl.Near(fracOf(n, d), p), "Near of "+n.Text(16)[:min(20, len(n.Text(16)))], p)
}

// P7.1: the numbers of p bits next to a number: one, if it has just p bits, else two; of either sign, in whatever way it is written.
func TestNear(t *testing.T) {
	is(t, known("5p-4 11p-5"), ivl.Near(smallFrac(1, 3), 4), "Near 1/3")
	is(t, known("-11p-5 -5p-4"), ivl.Near(smallFrac(-2, 6), 4), "Near -2/6")
	is(t, known("0 0"), ivl.Near(api.Frac{N: api.Int{Neg: true}, D: api.Nat{7, 0}}, 1), "Near 0")
	is(t, known("45p-3 45p-3"), ivl.Near(smallFrac(45, 8), 6), "Near 45/8")
	is(t, known("11p-1 23p-2"), ivl.Near(smallFrac(45, 8), 5), "Near 45/8")
	is(t, known("-3p1 -11p-1"), ivl.Near(smallFrac(-45, 8), 4), "Near -45/8")
	is(t, known("1p2 1p3"), ivl.Near(smallFrac(45, 8), 1), "Near 45/8")
	numbers := []*big.Int{big.NewInt(1), big.NewInt(2), big.NewInt(3), big.NewInt(10), big.NewInt(45), allOnes(63), pow2(64), plus(pow2(64), 1), allOnes(130), pow2(300)}
	for _, n := range append(numbers, new(big.Int)) {
		for _, d := range numbers {
			for _, p := range []int{1, 2, 3, 6, 63, 64, 65, 129, 130, 131, 1000} {
				nears(t, n, d, p)
				nears(t, new(big.Int).Neg(n), d, p)
			}
		}
	}
	for _, m := range []*big.Int{allOnes(api.MaxPrec), allOnes(api.MaxPrec + 1), plus(pow2(api.MaxPrec), 1), allOnes(maxBits), big.NewInt(7)} {
		nears(t, m, big.NewInt(1), api.MaxPrec)
		nears(t, m, big.NewInt(3), api.MaxPrec)
		nears(t, new(big.Int).Neg(m), big.NewInt(9), 1)
	}
}

// P7.1: not known of what is no number, to a p that is none, and where layer 6 says that it is too much.
func TestNearWrong(t *testing.T) {
	for _, x := range notFracs() {
		for _, p := range allPrecisions() {
			is(t, unknown(), ivl.Near(x, p), "Near of no number")
		}
	}
	for _, p := range wrongPrecisions() {
		for _, x := range []api.Frac{smallFrac(0, 1), smallFrac(1, 1), smallFrac(-1, 3), fracOf(allOnes(maxBits), big.NewInt(7))} {
			is(t, unknown(), ivl.Near(x, p), "Near to no precision")
		}
	}
	long := plus(pow2(maxBits-50), 1)
	for _, p := range []int{1, 48, 49, 50, 51, api.MaxPrec} {
		nears(t, big.NewInt(1), long, p)
		nears(t, big.NewInt(-7), long, p)
	}
	is(t, unknown(), ivl.Near(fracOf(big.NewInt(1), long), 50), "Near of what is too fine")
}
