package expo_test

import (
	"math/big"
	"math/rand/v2"
	"strconv"
	"testing"

	"stepstone/api"
	"stepstone/expo"
)

// P9.1: the chapter's examples, and others by hand.
func TestExpByHand(t *testing.T) {
	for _, c := range []struct {
		a        string
		p        int
		down, up string
	}{
		{"0", 5, "1", "1"}, {"0", 1, "1", "1"}, {"1", 4, "5p-1", "11p-2"}, {"-1", 1, "1p-2", "1p-1"},
		{"1", 1, "2", "4"}, {"1", 2, "2", "3"}, {"1", 3, "5p-1", "3"}, {"1", 5, "21p-3", "11p-2"}, {"1", 6, "43p-4", "11p-2"}, {"1", 53, "6121026514868073p-51", "6121026514868074p-51"},
		{"-1", 2, "1p-2", "3p-3"}, {"-1", 3, "5p-4", "3p-3"}, {"-1", 4, "11p-5", "3p-3"}, {"-1", 53, "6627126856707895p-54", "6627126856707896p-54"},
		{"2", 1, "4", "8"}, {"2", 4, "7", "15p-1"}, {"2", 3, "7", "8"}, {"-2", 1, "1p-3", "1p-2"}, {"1p-1", 1, "1", "2"}, {"1p-1", 3, "3p-1", "7p-2"}, {"-1p-1", 3, "1p-1", "5p-3"},
		{"10", 14, "11013p1", "22028"}, {"10", 15, "22026", "22027"}, {"-10", 2, "1p-15", "3p-16"}, {"1p-10", 11, "1025p-10", "513p-9"}, {"1p-10", 10, "1", "513p-9"}, {"-1p-10", 10, "1023p-10", "1"}, {"1p-10", 1, "1", "2"}, {"-1p-10", 1, "1p-1", "1"},
	} {
		got, e := expo.Exp(num(c.a), c.p, false)
		is(t, num(c.down), got, e, "Exp", num(c.a), c.p)
		got, e = expo.Exp(num(c.a), c.p, true)
		is(t, num(c.up), got, e, "Exp up", num(c.a), c.p)
	}
}

// decimal is a number by its first digits, and what it is at most above that.
func decimal(digits string, exponent int) (x, off *big.Rat) {
	x, ok := new(big.Rat).SetString(digits + "e" + strconv.Itoa(exponent))
	off, okToo := new(big.Rat).SetString("1e" + strconv.Itoa(exponent-100))
	if !ok || !okToo {
		panic(digits + " is no number")
	}
	return x, off
}

// P9.1: results of which a hundred digits are known.
func TestExpDecimal(t *testing.T) {
	const p = 300
	for _, c := range []struct {
		a, digits string
		exponent  int
	}{
		{"1", "2.7182818284590452353602874713526624977572470936999595749669676277240766303535475945713821785251664274274663919", 0},
		{"-1", "3.6787944117144232159552377016146086744581113103176783450783680169746149574489980335714727434591964374662732528", -1},
		{"10", "2.2026465794806716516957900645284244366353512618556781074235426355225202818570792575199120968164525895451555501", 4},
		{"-10", "4.5399929762484851535591515560550610237918088866564969259071305650999421614302281652525004545947782321708055090", -5},
		{"1p-1", "1.6487212707001281468486507878141635716537761007101480115750793116406610211942156086327765200563666430028666378", 0},
		{"-1p-2", "7.7880078307140486824517026697832064729677229042614147424131736626824561205351924463199901524731382060412433702", -1},
		{"1p-10", "1.0009770394924165352428452926116065064658516291817441994018640826491625042889686917365685369088246718607561376", 0},
		{"131071", "2.5824834150468196136483612606692986931598515450959737528017227009600248241149138629752321279888399535899090566", 56923},
		{"-131071", "3.8722417118867356362466296883236699561417125741472420267904250214746740380329297568936767099644165630393122923", -56924},
		{"200001p-1", "4.6274055820292495667453952646041773888424564349548471388019589999016605632858910448900773919754665808412017845", 43429},
	} {
		x, off := decimal(c.digits, c.exponent)
		down, e := expo.Exp(num(c.a), p, false)
		up, f := expo.Exp(num(c.a), p, true)
		low, high := ratOf(down), ratOf(up)
		if e != api.OK || f != api.OK || low.Cmp(new(big.Rat).Add(x, off)) > 0 || high.Cmp(new(big.Rat).Sub(x, off)) < 0 {
			t.Errorf("Exp of %s = %s, errors %d, %d: %se%d is not between", c.a, shown(down, up), e, f, c.digits, c.exponent)
		}
		if width := high.Sub(high, low); width.Sign() <= 0 || width.Mul(width, new(big.Rat).SetInt(pow2(p-1))).Cmp(x) > 0 {
			t.Errorf("Exp of %s = %s: too far apart", c.a, shown(down, up))
		}
	}
}

// P9.1: 0 in any way of writing it has the result 1, to any bits.
func TestExpZero(t *testing.T) {
	for _, a := range zeros() {
		for _, p := range []int{1, 2, 64, fine} {
			for _, up := range directions() {
				got, e := expo.Exp(a, p, up)
				is(t, small(1, 0), got, e, "Exp", a, p)
			}
		}
	}
}

// P9.1: all integers up to a bound, and halves and quarters and so on of them, of both signs, to all bits from 1 on.
func TestExpShort(t *testing.T) {
	by := newModel()
	for m := int64(-40); m <= 40; m++ {
		for e := -7; e <= 1; e++ {
			for p := 1; p <= 12; p++ {
				by.exps(t, small(m, e), p)
			}
		}
	}
}

// P9.1: numbers of both signs and all sizes, from next to 0 to just below 2^17, to few and many bits.
func TestExp(t *testing.T) {
	by := newModel()
	for _, top := range []int{17, 16, 10, 5, 2, 1, 0, -1, -2, -3, -4, -5, -8, -16, -30, -63, -64, -65, -100, -500, -2000, -3990} {
		for _, n := range []int{1, 2, 53, 64, 65, 200} {
			if n-top > fine {
				continue
			}
			for i, a := range bothSigns(written(allOnes(n), top-n), written(plus(pow2(n), 1), top-n-1)) {
				for _, p := range []int{1 + i, 32, 33, 53, 64 + i, 128, 500 + n} {
					by.exps(t, a, p)
				}
			}
		}
	}
	g := rand.New(rand.NewPCG(9, 1))
	for range 4000 {
		by.exps(t, anyDyad(g, 1+g.IntN(200), 17-g.IntN(40)), 1+g.IntN(200))
	}
	for range 200 {
		by.exps(t, anyDyad(g, 1+g.IntN(1500), 17-g.IntN(2000)), 1+g.IntN(1000))
	}
}

// P9.1: to as many bits as there may be, and one less; numbers of all lengths.
func TestExpLong(t *testing.T) {
	by := newModel()
	g := rand.New(rand.NewPCG(9, 2))
	for i := range 60 {
		top := 17 - []int{0, 1, 10, 16, 18, 30, 1000}[i%7]
		by.exps(t, anyDyad(g, []int{1, 10, 200, fine + top}[i%4], top), fine-i%2)
	}
}

// P9.1: numbers just below 2^17, and just above 0 minus that.
func TestExpAtTheTop(t *testing.T) {
	by := newModel()
	for _, a := range atTheTop() {
		for _, p := range []int{1, 2, 64, 100} {
			by.exps(t, a, p)
		}
	}
	for _, a := range bothSigns(written(allOnes(17+fine), -fine), small(1<<17-1, 0)) {
		by.exps(t, a, fine)
	}
}

// nextToOne is what Exp of m times 2^-MaxFine is to return, down: 1 and that number, rounded down, as what is beyond that is above 0 and less than the last bit. It needs an m that is not 0, of less than 1000 bits.
func nextToOne(m *big.Int, p int) (down, up api.Dyad) {
	one := new(big.Int).Add(pow2(fine), m)
	cut := uint(max(0, one.BitLen()-p))
	one.Rsh(one, cut)
	return odd(one, int(cut)-fine), odd(plus(one, 1), int(cut)-fine)
}

// P9.1: the numbers next to 0, on either side, to 1 bit and to all that there may be: next to 1 these are just fine enough to tell the number from 0, or not even that.
func TestExpNextToZero(t *testing.T) {
	for _, m := range []*big.Int{big.NewInt(1), big.NewInt(2), big.NewInt(3), big.NewInt(4), big.NewInt(5), big.NewInt(255), big.NewInt(256), big.NewInt(257), pow2(64), allOnes(64), plus(pow2(64), 1), pow2(900), allOnes(900), plus(pow2(899), 1)} {
		for _, x := range []*big.Int{m, negative(m)} {
			for _, p := range []int{1, 2, 53, 64, 2000, fine - 1000, fine - 900, fine - 899, fine - 65, fine - 64, fine - 2, fine - 1, fine} {
				down, up := nextToOne(x, p)
				a := written(x, -fine)
				got, e := expo.Exp(a, p, false)
				is(t, down, got, e, "Exp", a, p)
				got, e = expo.Exp(a, p, true)
				is(t, up, got, e, "Exp up", a, p)
			}
		}
	}
	for _, c := range []struct {
		a        api.Dyad
		p        int
		down, up api.Dyad
	}{
		{small(1, -fine), 1, small(1, 0), small(1, 1)}, {small(-1, -fine), 1, small(1, -1), small(1, 0)},
		{small(1, -fine), fine, small(1, 0), odd(plus(pow2(fine-1), 1), 1-fine)}, {small(-1, -fine), fine, odd(allOnes(fine), -fine), small(1, 0)},
		{small(-1, 1-fine), fine, odd(plus(allOnes(fine), -1), -fine), odd(allOnes(fine), -fine)},
	} {
		got, e := expo.Exp(c.a, c.p, false)
		is(t, c.down, got, e, "Exp", c.a, c.p)
		got, e = expo.Exp(c.a, c.p, true)
		is(t, c.up, got, e, "Exp up", c.a, c.p)
	}
}

// P9.1: numbers of which the first terms together have p bits: only a later term, far behind them, decides.
func TestExpShortSeries(t *testing.T) {
	by := newModel()
	for _, c := range []struct {
		m int64
		e int
	}{{1, -1000}, {1, -1999}, {1, -2000}, {1, -3000}, {3, -600}, {3, -990}, {15, -500}, {15, -640}, {45, -790}, {1, -64}, {3, -40}, {1 << 20, -2000}} {
		for _, a := range bothSigns(small(c.m, c.e)) {
			for _, p := range []int{-c.e, 1 - c.e, 1 - 2*c.e, 2 - 2*c.e, 3 - 3*c.e, 5 - 4*c.e, fine} {
				by.exps(t, a, min(p, fine))
			}
		}
	}
}

// nextToLogs are the numbers of so many bits behind the point on either side of the logarithm of 2^n: e to their power is just below, and just above 2^n.
func nextToLogs(by model, n int64, places int) (below, above api.Dyad) {
	units := new(big.Int).Mul(by.logs.two(places+sparse), big.NewInt(n))
	units.Rsh(units, sparse)
	return odd(units, -places), odd(plus(units, 1), -places)
}

// P9.1: numbers next to the logarithm of a power of 2: what is told to p bits is that power, or all ones, and many bits more than p tell which.
func TestExpNextToPowers(t *testing.T) {
	by := newModel()
	for _, n := range []int64{1, -1, 2, 3, -7, 100, -1000, 189000, -189000} {
		for _, places := range []int{30, 63, 64, 200, 1000, fine - 1, fine} {
			below, above := nextToLogs(by, n, places)
			for _, p := range []int{1, 2, 64, places / 2, places - 20} {
				got, e := expo.Exp(below, min(p, places-20), true)
				is(t, small(1, int(n)), got, e, "Exp up", below, p)
				got, e = expo.Exp(above, min(p, places-20), false)
				is(t, small(1, int(n)), got, e, "Exp", above, p)
			}
			for _, p := range []int{1, 2, 64, min(places-1, 500), min(places+30, 600)} {
				by.exps(t, below, p)
				by.exps(t, above, p)
			}
		}
	}
	below, above := nextToLogs(by, 1, fine)
	for _, p := range []int{fine - 20, fine - 2, fine} {
		by.exps(t, below, p)
		by.exps(t, above, p)
	}
}

// P9.1, R7: a number has one result, however it is written.
func TestExpNotNormal(t *testing.T) {
	by := newModel()
	for _, x := range bothSigns(small(1, 0), small(3, -1), small(1<<17-1, 0), small(1, -fine), small(5, -70), written(allOnes(65), -60)) {
		m := bigOf(x.M)
		for _, n := range []int{1, 2, 63, 64, 65, 129, fewBits, maxBits - m.BitLen()} {
			a := written(new(big.Int).Lsh(m, uint(n)), x.E-n)
			for _, p := range []int{1, 64, 100} {
				by.exps(t, a, p)
				by.exps(t, padded(a, 1+n%7), p)
			}
		}
	}
	by.exps(t, padded(small(2, 0), 20000), 70)
}
