package loga_test

import (
	"math/big"
	"math/rand/v2"
	"strconv"
	"testing"

	"stepstone/api"
	"stepstone/expo"
	"stepstone/loga"
)

// P10.1: the chapter's examples, and others by hand.
func TestLogByHand(t *testing.T) {
	for _, c := range []struct {
		a        string
		p        int
		down, up string
	}{
		{"1", 5, "0", "0"}, {"1", 1, "0", "0"}, {"2", 3, "5p-3", "3p-2"}, {"1p-1", 3, "-3p-2", "-5p-3"},
		{"2", 1, "1p-1", "1"}, {"2", 2, "1p-1", "3p-2"}, {"2", 4, "11p-4", "3p-2"}, {"2", 5, "11p-4", "23p-5"}, {"2", 6, "11p-4", "45p-6"}, {"2", 53, "6243314768165359p-53", "390207173010335p-49"},
		{"1p-1", 1, "-1", "-1p-1"}, {"1p-1", 2, "-3p-2", "-1p-1"}, {"1p-1", 4, "-3p-2", "-11p-4"}, {"1p-1", 53, "-390207173010335p-49", "-6243314768165359p-53"},
		{"3", 1, "1", "2"}, {"3", 2, "1", "3p-1"}, {"3", 4, "1", "9p-3"}, {"3", 53, "2473854946935173p-51", "4947709893870347p-52"},
		{"3p-2", 1, "-1p-1", "-1p-2"}, {"3p-2", 2, "-3p-3", "-1p-2"}, {"3p-2", 4, "-5p-4", "-9p-5"}, {"3p-2", 53, "-5182419497180051p-54", "-2591209748590025p-53"},
		{"3p-1", 1, "1p-2", "1p-1"}, {"3p-1", 3, "3p-3", "7p-4"}, {"3p-1", 53, "7304210039150667p-54", "1826052509787667p-52"},
		{"4", 1, "1", "2"}, {"4", 3, "5p-2", "3p-1"}, {"1p-2", 1, "-2", "-1"}, {"1p-2", 3, "-3p-1", "-5p-2"}, {"8", 4, "2", "9p-2"}, {"7", 8, "249p-7", "125p-6"},
		{"10", 1, "2", "4"}, {"10", 4, "9p-2", "5p-1"}, {"10", 53, "5184960683398421p-51", "2592480341699211p-50"}, {"1000", 3, "6", "7"}, {"1000", 10, "221p-5", "885p-7"}, {"1p10", 3, "6", "7"}, {"1p-10", 3, "-7", "-6"},
		{"20", 2, "2", "3"}, {"21", 2, "3", "4"}, {"148", 12, "1279p-8", "2559p-9"}, {"149", 12, "1281p-8", "2563p-9"}, {"22026", 20, "327679p-15", "655359p-16"}, {"22027", 20, "655361p-16", "327681p-15"},
		{"1025p-10", 1, "1p-11", "1p-10"}, {"1025p-10", 10, "1023p-20", "1p-10"}, {"1025p-10", 12, "2047p-21", "4095p-22"}, {"1023p-10", 1, "-1p-9", "-1p-10"}, {"1023p-10", 11, "-1025p-20", "-1p-10"}, {"1023p-10", 12, "-1025p-20", "-2049p-21"},
		{"1p4000", 12, "2772", "2773"}, {"1p4000", 53, "6096987078286483p-41", "1524246769571621p-39"}, {"1p-4000", 1, "-4096", "-2048"}, {"1p-4000", 12, "-2773", "-2772"},
	} {
		got, e := loga.Log(num(c.a), c.p, false)
		is(t, num(c.down), got, e, "Log", num(c.a), c.p)
		got, e = loga.Log(num(c.a), c.p, true)
		is(t, num(c.up), got, e, "Log up", num(c.a), c.p)
	}
}

// decimal is a number by its first digits, and what it is off at most.
func decimal(digits string, exponent int) (x, off *big.Rat) {
	x, ok := new(big.Rat).SetString(digits + "e" + strconv.Itoa(exponent))
	off, okToo := new(big.Rat).SetString("1e" + strconv.Itoa(exponent-100))
	if !ok || !okToo {
		panic(digits + " is no number")
	}
	return x, off
}

// P10.1: results of which a hundred digits are known.
func TestLogDecimal(t *testing.T) {
	const p = 300
	greatest := written(allOnes(fewBits), fine)
	for _, c := range []struct {
		a        api.Dyad
		digits   string
		exponent int
	}{
		{num("2"), "6.93147180559945309417232121458176568075500134360255254120680009493393621969694715605863326996418687542001481021", -1},
		{num("1p-1"), "-6.93147180559945309417232121458176568075500134360255254120680009493393621969694715605863326996418687542001481021", -1},
		{num("3"), "1.09861228866810969139524523692252570464749055782274945173469433363749429321860896687361575481373208878797002907", 0},
		{num("10"), "2.30258509299404568401799145468436420760110148862877297603332790096757260967735248023599720508959829834196778404", 0},
		{num("123456789"), "1.86314017661680180331939333479632042097136818410204019751850899450922174672563517776561164201903026954784765288", 1},
		{num("3p-2"), "-2.87682072451780927439219005993827431503509710897761056506665685349292950720780464338110899179105286296032932975", -1},
		{num("7p-3"), "-1.33531392624522623146343620931349974589415673498904573902649878542601003157014879029931482401384535632942748856", -1},
		{num("1025p-10"), "9.76085973055458895960824908017186672611834333784536237758598274400372124025879163951627594159157217908285233099", -4},
		{num("1023p-10"), "-9.77039647826612785968075151753465835865001361793942496819979690886885967550243896097975811733364644352118362571", -4},
		{num("65537p-16"), "1.52586726483623974057573251348888198826624801153965636972392569016704263437685724579313340821682081360661632805", -5},
		{num("1p4000"), "2.77258872223978123766892848583270627230200053744102101648272003797357448787877886242345330798567475016800592408", 3},
		{num("1p-4000"), "-2.77258872223978123766892848583270627230200053744102101648272003797357448787877886242345330798567475016800592408", 3},
		{greatest, "5.61171957381331722504191125532539749513924908778062653736102535685851476346664841754506949536300569434004399034", 3},
	} {
		x, off := decimal(c.digits, c.exponent)
		down, e := loga.Log(c.a, p, false)
		up, f := loga.Log(c.a, p, true)
		low, high := ratOf(down), ratOf(up)
		if e != api.OK || f != api.OK || low.Cmp(new(big.Rat).Add(x, off)) > 0 || high.Cmp(new(big.Rat).Sub(x, off)) < 0 {
			t.Errorf("Log of %s = %s, errors %d, %d: %se%d is not between", shown(c.a), shown(down, up), e, f, c.digits, c.exponent)
		}
		if width := high.Sub(high, low); width.Sign() <= 0 || width.Mul(width, new(big.Rat).SetInt(pow2(p-1))).Cmp(x.Abs(x)) > 0 {
			t.Errorf("Log of %s = %s: too far apart", shown(c.a), shown(down, up))
		}
	}
}

// P10.1: 1 in any way of writing it has the result 0, to any bits.
func TestLogOne(t *testing.T) {
	for _, a := range ones() {
		for _, p := range finePrecisions() {
			for _, up := range directions() {
				got, e := loga.Log(a, p, up)
				is(t, api.Dyad{}, got, e, "Log", a, p)
			}
		}
	}
}

// P10.1: all integers up to a bound, and halves and quarters and so on of them, to all bits from 1 on.
func TestLogShort(t *testing.T) {
	by := newModel()
	for m := int64(1); m <= 80; m++ {
		for e := -8; e <= 1; e++ {
			for p := 1; p <= 12; p++ {
				by.check(t, small(m, e), p)
			}
		}
	}
}

// P10.1: numbers above 1 and below it, of all sizes, to few and many bits.
func TestLog(t *testing.T) {
	by := newModel()
	for _, top := range []int{fewBits + fine, fewBits, fine, 500, 65, 64, 63, 10, 3, 2, 1, 0, -1, -2, -10, -63, -64, -65, -500, 201 - fine, 2 - fine, 1 - fine} {
		for _, n := range []int{1, 2, 53, 64, 65, 200, fewBits} {
			if top-n > fine || top-n-1 < -fine {
				continue
			}
			for i, a := range []api.Dyad{written(allOnes(n), top-n), odd(plus(pow2(n), 1), top-n-1), odd(plus(pow2(n), 3), top-n)} {
				for _, p := range []int{1 + i, 32, 33, 53, 64 + i, 128, 500} {
					if expo.Fine(a) {
						by.check(t, a, p)
					}
				}
			}
		}
	}
	g := rand.New(rand.NewPCG(10, 1))
	for range 4000 {
		by.check(t, anyDyad(g, 1+g.IntN(200), 20-g.IntN(40)), 1+g.IntN(200))
	}
	for range 300 {
		by.check(t, anyDyad(g, 1+g.IntN(fewBits), fine-g.IntN(2*fine)), 1+g.IntN(600))
	}
}

// P10.1: powers of two, to the greatest and the least that are fine.
func TestLogPowersOfTwo(t *testing.T) {
	by := newModel()
	for n := -64; n <= 64; n++ {
		for _, p := range []int{1, 2, 3, 10, 64, 100} {
			by.check(t, small(1, n), p)
		}
	}
	for _, n := range []int{100, 255, 256, 257, 1000, 2047, 2048, 2049, fine - 1, fine} {
		for _, p := range finePrecisions() {
			by.check(t, small(1, n), p)
			by.check(t, small(1, -n), p)
		}
	}
}

// P10.1: fine numbers that are just so, the greatest and the least among them, to as many bits as there may be, and one less.
func TestLogAtTheEnds(t *testing.T) {
	by := newModel()
	for i, a := range someFine() {
		for _, p := range []int{1, 2, 64, 100} {
			by.check(t, a, p)
		}
		by.check(t, a, fine-i%2)
	}
}

// P10.1: numbers of all lengths and sizes to as many bits as there may be, and one less.
func TestLogLong(t *testing.T) {
	by := newModel()
	g := rand.New(rand.NewPCG(10, 2))
	for i := range 35 {
		most, top := []int{1, 10, 200, fewBits}[i%4], []int{0, 1, 2, 10, 1000, fine, -10}[i%7]
		by.check(t, anyDyad(g, most, top), fine-i%2)
	}
}

// P10.1: numbers around those at which what is split off changes: 3/2 and 3/4 by powers of two, and all sixteenths and finer parts between them.
func TestLogBetweenPowers(t *testing.T) {
	by := newModel()
	for _, n := range []int{-100, -2, -1, 0, 1, 2, 7, 1000} {
		for _, m := range []int64{3 << 40, 3<<40 + 1, 3<<40 - 1} {
			for _, p := range []int{1, 20, 64, 200} {
				by.check(t, small(m, n-41), p)
				by.check(t, small(m, n-42), p)
			}
		}
	}
	for m := int64(768); m <= 1536; m++ {
		for _, p := range []int{40, 64} {
			by.check(t, small(m, -10), p)
			by.check(t, small(m<<30-1, -40), p)
		}
	}
}

// justBelow is the real number just below m times 2^e, to p bits, down and up, as it differs from that by less than all that is told.
func justBelow(m *big.Int, e, p int) (down, up api.Dyad) {
	m = new(big.Int).Lsh(m, uint(p+2))
	cut := plus(m, -1).BitLen() - p
	if m.Sign() < 0 {
		cut = m.BitLen() - p
	}
	m = new(big.Int).Rsh(plus(m, -1), uint(cut))
	return odd(m, e-p-2+cut), odd(plus(m, 1), e-p-2+cut)
}

// P10.1: the numbers next to 1, on either side: the result is just below the distance from 1.
func TestLogNextToOne(t *testing.T) {
	for _, m := range []*big.Int{big.NewInt(1), big.NewInt(2), big.NewInt(3), big.NewInt(4), big.NewInt(5), big.NewInt(255), big.NewInt(256), big.NewInt(257), pow2(64), allOnes(64), plus(pow2(64), 1), pow2(900), allOnes(900), plus(pow2(899), 1)} {
		for _, x := range []*big.Int{m, negative(m)} {
			a := written(new(big.Int).Add(pow2(fine), x), -fine)
			for _, p := range []int{1, 2, 53, 64, 65, 899, 900, 2000, fine - 902 - m.BitLen(), fine - 3 - m.BitLen()} {
				if p > fine-3-m.BitLen() {
					continue
				}
				down, up := justBelow(x, -fine, p)
				got, e := loga.Log(a, p, false)
				is(t, down, got, e, "Log", a, p)
				got, e = loga.Log(a, p, true)
				is(t, up, got, e, "Log up", a, p)
			}
		}
	}
	for _, c := range []struct {
		a        api.Dyad
		p        int
		down, up api.Dyad
	}{
		{aboveOne(), 1, small(1, -fine-1), small(1, -fine)}, {belowOne(), 1, small(-1, 1-fine), small(-1, -fine)},
		{aboveOne(), fine, odd(allOnes(fine), -2*fine), small(1, -fine)}, {belowOne(), fine, odd(negative(plus(pow2(fine-1), 1)), 1-2*fine), small(-1, -fine)},
	} {
		got, e := loga.Log(c.a, c.p, false)
		is(t, c.down, got, e, "Log", c.a, c.p)
		got, e = loga.Log(c.a, c.p, true)
		is(t, c.up, got, e, "Log up", c.a, c.p)
	}
}

// P10.1: numbers next to 1 of which the first terms together have p bits: only a later term, far behind them, decides.
func TestLogShortSeries(t *testing.T) {
	by := newModel()
	for _, c := range []struct {
		m int64
		e int
	}{{1, -64}, {3, -40}, {1, -300}, {1, -1000}, {1, -1333}, {1, -1999}, {1, -2000}, {1, -3000}, {1, 1 - fine}, {1, -fine}, {3, -600}, {3, -990}, {3, -1333}, {15, -500}, {15, -640}, {45, -790}, {1 << 20, -2000}} {
		for _, m := range []int64{c.m, -c.m} {
			a := odd(plus(pow2(-c.e), m), c.e)
			for _, p := range []int{-c.e - 1, -c.e, 1 - c.e, 2 - c.e, 1 - 2*c.e, 3 - 2*c.e, 5 - 3*c.e, 9 - 4*c.e, fine - 1, fine} {
				by.check(t, a, min(p, fine))
			}
		}
	}
}

// P10.1: numbers next to 1 of all lengths, near and far, to few and many bits.
func TestLogNearOne(t *testing.T) {
	by := newModel()
	g := rand.New(rand.NewPCG(10, 3))
	for range 2000 {
		by.check(t, nearOne(g, 1+g.IntN(100), 1+g.IntN(200)), 1+g.IntN(300))
	}
	for range 100 {
		by.check(t, nearOne(g, 1+g.IntN(1000), 1+g.IntN(2900)), []int{1, 64, 1000, fine}[g.IntN(4)])
	}
}

// P10.1: numbers next to a power of e: what is told to p bits is its exponent, or the one next to that, and many bits more than p tell which.
func TestLogNextToPowers(t *testing.T) {
	for i, s := range []string{"1", "-1", "5600", "1p-20", "-3p-1", "2", "3", "5p-1", "1p-1", "3p-9", "100", "1000", "16385p-10", "-1p-7", "-20"} {
		for _, places := range []int{60, 64, 65, 300, 1000, fine - 40, fine} {
			x := num(s)
			below, e := expo.Exp(x, places, false)
			above, f := expo.Exp(x, places, true)
			if e != api.OK || f != api.OK || !expo.Fine(below) || !expo.Fine(above) || places > 1000 && i > 4 {
				continue
			}
			isNextTo(t, x, below, above, places-30)
			for _, p := range []int{20, 21, 30, min(places/2, 500)} {
				isNextTo(t, x, below, above, p)
			}
		}
	}
}

// isNextTo checks the results of numbers just below, and just above, e to the power of x.
func isNextTo(t *testing.T, x, below, above api.Dyad, p int) {
	t.Helper()
	down, up := justBelow(bigOf(x.M), x.E, p)
	got, e := loga.Log(below, p, false)
	is(t, down, got, e, "Log", below, p)
	got, e = loga.Log(below, p, true)
	is(t, up, got, e, "Log up", below, p)
	// Just above x is on the other side of 0 just below 0 minus x.
	down, up = justBelow(bigOf(turned(x).M), x.E, p)
	got, e = loga.Log(above, p, true)
	is(t, turned(down), got, e, "Log up", above, p)
	got, e = loga.Log(above, p, false)
	is(t, turned(up), got, e, "Log", above, p)
}

// P10.1, R7: a number has one result, however it is written.
func TestLogNotNormal(t *testing.T) {
	by := newModel()
	for _, x := range []api.Dyad{small(1, 1), small(3, -1), small(1, fine), small(1, -fine), small(5, -70), written(allOnes(65), -60), belowOne()} {
		m := bigOf(x.M)
		for _, n := range []int{1, 2, 63, 64, 65, 129, fewBits, maxBits - m.BitLen()} {
			a := written(new(big.Int).Lsh(m, uint(n)), x.E-n)
			for _, p := range []int{1, 64, 100} {
				by.check(t, a, p)
				by.check(t, padded(a, 1+n%7), p)
			}
		}
	}
	by.check(t, padded(small(2, 0), 20000), 70)
}
