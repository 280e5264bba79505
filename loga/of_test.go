package loga_test

import (
	"math/big"
	"math/rand/v2"
	"slices"
	"testing"

	"stepstone/api"
	"stepstone/dyad"
	"stepstone/expo"
	"stepstone/loga"
)

// P10.2: by hand: one number, 1 inside, at an end, alone; bounds that are not above 0, or not fine.
func TestOfByHand(t *testing.T) {
	for _, c := range []struct {
		a    string
		p    int
		want api.Ivl
	}{
		{"1", 5, known("0")}, {"1", 1, known("0")}, {"2", 3, known("5p-3 3p-2")}, {"1p-1", 3, known("-3p-2 -5p-3")}, {"1 2", 3, known("0 3p-2")}, {"1p-1 1", 3, known("-3p-2 0")}, {"1p-1 2", 3, known("-3p-2 3p-2")}, {"1p-1 2", 1, known("-1 1")}, {"3p-2 3", 2, known("-3p-3 3p-1")}, {"2 1000", 3, known("5p-3 7")},
		{"1p-4000", 12, known("-2773 -2772")}, {"1p4000", 12, known("2772 2773")}, {"1p-4000 1p4000", 12, known("-2773 2773")},
		{"0", 4, undef()}, {"-1", 4, undef()}, {"-1 0", 4, undef()}, {"-2 -1", 4, undef()}, {"-1p-4000 0", 4, undef()}, {"-1p1000000", 4, undef()}, {"-1p1000000 0", 4, undef()}, {"-1p-4001", 4, undef()}, {"-1p4001 -1p-4001", 4, undef()},
		{"0 1", 4, unknown()}, {"-1 1", 4, unknown()}, {"0 1p-4000", 4, unknown()}, {"-1p-4000 1p-4000", 4, unknown()}, {"0 1p4001", 4, unknown()}, {"-1p4001 1", 4, unknown()}, {"-1p-4001 1p-4001", 4, unknown()},
		{"1p-4001", 4, unknown()}, {"1p4001", 4, unknown()}, {"1p-4001 1", 4, unknown()}, {"1 1p4001", 4, unknown()}, {"1p-4001 1p4001", 4, unknown()}, {"1 1p1000000", 4, unknown()},
	} {
		isIvl(t, c.want, loga.Of(known(c.a), c.p), known(c.a), c.p)
	}
}

// between is the interval of both numbers, normal, in their order.
func between(a, b api.Dyad) api.Ivl {
	a, b = odd(bigOf(a.M), a.E), odd(bigOf(b.M), b.E)
	if c, _ := dyad.Cmp(a, b); c > 0 {
		a, b = b, a
	}
	return some(a, b)
}

// within are intervals both of whose bounds have a logarithm.
func within() []api.Ivl {
	var l []api.Ivl
	for _, s := range []string{"1", "2", "1p-1", "5p-3", "1 2", "1p-1 1", "1p-1 2", "9p-2 45p1", "3p-3 7p-3", "1p-4000", "1p4000", "1p-4000 1p4000", "1p-4000 1", "1 1p4000", "3p-4000 1", "1023p-10 1025p-10"} {
		l = append(l, known(s))
	}
	fines := someFine()
	for i := 0; i < len(fines); i += 3 {
		l = append(l, between(fines[i], fines[(i+7)%len(fines)]))
	}
	return append(l, some(belowOne(), belowOne()), some(aboveOne(), aboveOne()), some(belowOne(), small(1, 0)), some(small(1, 0), aboveOne()), some(belowOne(), aboveOne()))
}

// someNotFine are numbers above 0 that are not fine, but have room to be normal.
func someNotFine() []api.Dyad {
	var l []api.Dyad
	for _, x := range notFine() {
		if _, e := dyad.Norm(x); e == api.OK && !x.M.Neg {
			l = append(l, x)
		}
	}
	return l
}

// beyond are intervals above 0 of which Lo, or Hi, or both are not fine.
func beyond() []api.Ivl {
	var l []api.Ivl
	for _, x := range someNotFine() {
		l = append(l, between(x, x), between(x, padded(written(allOnes(fewBits+1), fine+1), 0)))
		for _, y := range []api.Dyad{small(1, 0), small(1, fine), small(1, -fine), aboveOne()} {
			l = append(l, between(x, y))
		}
	}
	return l
}

// across are intervals of which Lo is not above 0, and Hi is.
func across() []api.Ivl {
	var l []api.Ivl
	for _, x := range append(someNotFine(), small(1, 0), small(1, fine), small(1, -fine), belowOne()) {
		for _, y := range []api.Dyad{{}, small(-1, 0), small(-1, fine), small(-1, -fine), small(-1, far), small(-1, -far), written(negative(allOnes(fewBits+1)), 0)} {
			l = append(l, between(x, y))
		}
	}
	return l
}

// below are intervals that are not above 0.
func below() []api.Ivl {
	var l []api.Ivl
	for _, x := range append(someNotFine(), api.Dyad{}, small(1, 0), small(1, fine), small(1, -fine), belowOne()) {
		for _, y := range []api.Dyad{turned(x), {}, small(-1, 0), small(-1, fine), small(-1, -fine), small(-1, far), small(-1, -far)} {
			l = append(l, between(turned(x), y))
		}
	}
	return l
}

func (m model) bounded(a api.Ivl, p int) api.Ivl {
	lo, _ := m.rounded(ratOf(a.Lo), p)
	_, hi := m.rounded(ratOf(a.Hi), p)
	return some(lo, hi)
}

// P10.2: wherever both bounds are, with p that is this layer's, other layers' alone, and none: these count first, what this layer alone has not counts last.
func TestOf(t *testing.T) {
	by, above, notKnown, notThere := newModel(), within(), slices.Concat(across(), beyond()), below()
	for _, p := range allPrecisions() {
		isFine, isNone := slices.Contains(finePrecisions(), p), slices.Contains(noPrecisions(), p)
		for i, a := range above {
			want := unknown()
			if isFine && p > 1000 && i%4 > 0 {
				continue // The model has much to do for so many bits.
			}
			if isFine {
				want = by.bounded(a, p)
			}
			isIvl(t, want, loga.Of(a, p), a, p)
		}
		for _, a := range notKnown {
			isIvl(t, unknown(), loga.Of(a, p), a, p)
		}
		for _, a := range notThere {
			want := undef()
			if isNone {
				want = unknown()
			}
			isIvl(t, want, loga.Of(a, p), a, p)
		}
	}
}

// P10.2: many intervals, many of one number alone or of two next to each other.
func TestOfAny(t *testing.T) {
	by := newModel()
	g := rand.New(rand.NewPCG(10, 4))
	for range 2000 {
		lo := anyDyad(g, 1+g.IntN(150), 16-g.IntN(30))
		x := bigOf(lo.M)
		hi := new(big.Int).Add(x, []*big.Int{big.NewInt(0), big.NewInt(1), big.NewInt(g.Int64N(1 << 40)), x}[g.IntN(4)])
		a := some(lo, odd(hi, lo.E))
		p := 1 + g.IntN(150)
		isIvl(t, by.bounded(a, p), loga.Of(a, p), a, p)
	}
}

// P10.2: Two is the logarithm of 2, whatever p is.
func TestTwo(t *testing.T) {
	two := known("2")
	by := newModel()
	for p := 1; p <= 300; p++ {
		isIvl(t, by.bounded(two, p), loga.Two(p), two, p)
	}
	for _, p := range allPrecisions() {
		want := unknown()
		if slices.Contains(finePrecisions(), p) {
			want = by.bounded(two, p)
		}
		isIvl(t, want, loga.Two(p), two, p)
	}
	isIvl(t, known("5p-3 3p-2"), loga.Two(3), two, 3)
	isIvl(t, known("6243314768165359p-53 390207173010335p-49"), loga.Two(53), two, 53)
}

// P10.2: what is known of no number stays so, whatever p is.
func TestOfKinds(t *testing.T) {
	for _, p := range allPrecisions() {
		isIvl(t, unknown(), loga.Of(unknown(), p), unknown(), p)
		isIvl(t, undef(), loga.Of(undef(), p), undef(), p)
	}
}

// notNormal are numbers that are valid, but could be written otherwise, or that are not valid at all: no interval has such a bound.
func notNormal() []api.Dyad {
	minus := api.Int{Neg: true}
	l := []api.Dyad{small(2, 0), small(4, 0), small(-2, 0), small(6, -1), small(2, far), written(pow2(64), 0), written(pow2(64), -64), padded(small(1, 0), 1), padded(small(-5, 3), 2), padded(small(3, 0), 4000),
		{M: minus}, {E: 1}, {E: -1}, {E: far}, {M: minus, E: 2}, {M: api.Int{M: api.Nat{0}}}, {M: api.Int{Neg: true, M: api.Nat{0, 0}}}}
	return append(l, notValid()...)
}

// notIntervals are of other kinds, with bounds in the wrong order, not normal, not valid, or where there are to be none.
func notIntervals() []api.Ivl {
	one, two, zero := small(1, 0), small(1, 1), api.Dyad{}
	var l []api.Ivl
	for _, kind := range []uint8{3, 4, 5, 127, 128, 129, 254, 255} {
		l = append(l, api.Ivl{Kind: kind}, api.Ivl{Kind: kind, Lo: one, Hi: two}, api.Ivl{Kind: kind, Lo: small(-1, 0), Hi: zero})
	}
	for _, s := range []string{"2 1", "1 -1", "-1 -2", "0 -1", "1 0", "0 -1p-200", "1p-200 0", "9p-3 1", "1 1p-4000", "1p4000 1p-4000"} {
		l = append(l, known(s))
	}
	for _, x := range notNormal() {
		l = append(l, some(x, x), some(x, small(1, fine)), some(small(1, -fine), x), some(small(-1, fine), x), some(zero, x), some(x, zero))
	}
	for _, x := range append(notNormal(), one, small(-3, 5), small(1, -far)) {
		for _, kind := range []uint8{api.IvUnknown, api.IvUndef} {
			l = append(l, api.Ivl{Kind: kind, Lo: x, Hi: x}, api.Ivl{Kind: kind, Lo: x}, api.Ivl{Kind: kind, Hi: x})
		}
	}
	return l
}

// P10.2: of what is no interval nothing is known, whatever p is.
func TestOfNotValid(t *testing.T) {
	for _, a := range notIntervals() {
		for _, p := range allPrecisions() {
			isIvl(t, unknown(), loga.Of(a, p), a, p)
		}
	}
}

// P10.1, P10.2: what is fine is layer 9's word: the same numbers have a logarithm as those that it says are.
func TestFineHasLogarithm(t *testing.T) {
	for _, a := range slices.Concat(someFine(), ones(), notFine(), notValid()) {
		_, e := loga.Log(a, 1, false)
		if is := expo.Fine(a); is != (e != api.ErrBig) {
			t.Errorf("Log of %s: error %d, but fine is %v", shown(a), e, is)
		}
	}
}
