package expo_test

import (
	"math/big"
	"math/rand/v2"
	"slices"
	"testing"

	"stepstone/api"
	"stepstone/dyad"
	"stepstone/expo"
)

// P9.2: by hand: one number, 0 inside, at an end, alone; bounds that are too great, too small, or not fine.
func TestOfByHand(t *testing.T) {
	for _, c := range []struct {
		a    string
		p    int
		want api.Ivl
	}{
		{"0", 5, known("1")}, {"0", 1, known("1")}, {"1", 4, known("5p-1 11p-2")}, {"-1", 1, known("1p-2 1p-1")}, {"0 1", 4, known("1 11p-2")}, {"-1 0", 1, known("1p-2 1")}, {"-1 1", 1, known("1p-2 4")}, {"-1 2", 3, known("5p-4 8")}, {"-10 10", 2, known("1p-15 3p13")},
		{"1p-4000", 1, known("1 2")}, {"-1p-4000", 1, known("1p-1 1")}, {"-1p-4000 1p-4000", 2, known("3p-2 3p-1")},
		{"0 1p17", 4, unknown()}, {"-1p17 0", 4, unknown()}, {"-1p17 1p17", 4, unknown()}, {"1p17", 4, unknown()}, {"-1p17", 4, unknown()}, {"1p-4001", 4, unknown()}, {"0 1p-4001", 4, unknown()}, {"-1p-4001 0", 4, unknown()}, {"1 1p1000000", 4, unknown()}, {"-3p16 -1", 4, unknown()},
	} {
		isIvl(t, c.want, expo.Of(known(c.a), c.p), known(c.a), c.p)
	}
}

// between is the interval of both numbers, normal, in their order.
func between(a, b api.Dyad) api.Ivl {
	a, b = odd(bigOf(a.M), a.E), odd(bigOf(b.M), b.E)
	if c, _ := dyad.Cmp(a, b); c > 0 {
		a, b = b, a
	}
	return some(a, b)
}

// powered are intervals both of whose bounds have a power.
func powered() []api.Ivl {
	var l []api.Ivl
	for _, s := range []string{"0", "1", "-1", "5p-3", "0 1", "-1 0", "-1 1", "-9p-2 45p1", "1 2", "-2 -1", "1p-4000", "-1p-4000 1p-4000", "0 1p-4000", "-1p-4000 0", "3p-4000 1", "131071", "-131071 131071", "-131071 0", "0 131071", "-131071 -1"} {
		l = append(l, known(s))
	}
	top := atTheTop()
	for i, x := range top {
		l = append(l, between(x, top[(i+3)%len(top)]))
	}
	return append(l, between(written(allOnes(17+fine), -fine), written(negative(allOnes(17+fine)), -fine)), between(written(allOnes(100), -100), written(plus(pow2(100), 1), -100)))
}

// beyond are intervals of which Lo, or Hi, or both are too great, too small, or not fine.
func beyond() []api.Ivl {
	var l []api.Ivl
	others := []api.Dyad{{}, small(1, 0), small(-1, 0), small(1<<17-1, 0), small(1-1<<17, 0), small(1, -fine), small(-1, -fine)}
	for _, x := range append(tooGreat(), notFine()...) {
		if _, e := dyad.Norm(x); e != api.OK {
			continue
		}
		l = append(l, between(x, x), between(x, turned(x)))
		for _, y := range others {
			l = append(l, between(x, y))
		}
	}
	return l
}

func (m model) bounded(a api.Ivl, p int) api.Ivl {
	lo, _ := m.rounded(ratOf(a.Lo), p)
	_, hi := m.rounded(ratOf(a.Hi), p)
	return some(lo, hi)
}

// P9.2: wherever both bounds are, with p that is this layer's, other layers' alone, and none.
func TestOf(t *testing.T) {
	by, within, outside := newModel(), powered(), beyond()
	for _, p := range allPrecisions() {
		for _, a := range within {
			want := unknown()
			if slices.Contains(finePrecisions(), p) {
				want = by.bounded(a, p)
			}
			isIvl(t, want, expo.Of(a, p), a, p)
		}
		for _, a := range outside {
			isIvl(t, unknown(), expo.Of(a, p), a, p)
		}
	}
}

// P9.2: many intervals, many of one number alone or of two next to each other.
func TestOfAny(t *testing.T) {
	by := newModel()
	g := rand.New(rand.NewPCG(9, 3))
	for range 2000 {
		lo := anyDyad(g, 1+g.IntN(150), 16-g.IntN(30))
		x := bigOf(lo.M)
		hi := new(big.Int).Add(x, []*big.Int{big.NewInt(0), big.NewInt(1), big.NewInt(g.Int64N(1 << 40)), new(big.Int).Abs(x)}[g.IntN(4)])
		a := some(lo, odd(hi, lo.E))
		if !expo.Fine(a.Hi) || dyad.Top(a.Hi) > 17 {
			continue
		}
		p := 1 + g.IntN(150)
		isIvl(t, by.bounded(a, p), expo.Of(a, p), a, p)
	}
}

// P9.2: what is known of no number stays so, whatever p is.
func TestOfKinds(t *testing.T) {
	for _, p := range allPrecisions() {
		isIvl(t, unknown(), expo.Of(unknown(), p), unknown(), p)
		isIvl(t, undef(), expo.Of(undef(), p), undef(), p)
	}
}

// notNormal are numbers that are valid, but could be written otherwise, or that are not valid at all: no interval has such a bound.
func notNormal() []api.Dyad {
	minus := api.Int{Neg: true}
	l := []api.Dyad{small(2, 0), small(4, 0), small(-2, 0), small(6, -1), small(2, far), written(pow2(64), 0), written(pow2(64), -64), padded(small(1, 0), 1), padded(small(-5, 3), 2), padded(small(3, 0), 4000),
		{M: minus}, {E: 1}, {E: -1}, {E: far}, {M: minus, E: 2}, {M: api.Int{M: api.Nat{0}}}, {M: api.Int{Neg: true, M: api.Nat{0, 0}}}}
	return append(l, notValid()...)
}

// notIntervals are of other kinds, with bounds in the wrong order, not normal, not valid, or where there are to be none.
func notIntervals() []api.Ivl {
	one, two, zero := small(1, 0), small(1, 1), api.Dyad{}
	var l []api.Ivl
	for _, kind := range []uint8{3, 4, 5, 127, 128, 129, 254, 255} {
		l = append(l, api.Ivl{Kind: kind}, api.Ivl{Kind: kind, Lo: one, Hi: two}, api.Ivl{Kind: kind, Lo: small(-1, 0), Hi: zero})
	}
	for _, s := range []string{"2 1", "1 -1", "-1 -2", "0 -1", "1 0", "0 -1p-200", "1p-200 0", "9p-3 1", "1p17 0", "131071 -131071"} {
		l = append(l, known(s))
	}
	for _, x := range notNormal() {
		l = append(l, some(x, x), some(x, small(1<<17-1, 0)), some(small(1-1<<17, 0), x), some(zero, x), some(x, zero))
	}
	for _, x := range append(notNormal(), one, small(-3, 5), small(1, -far)) {
		for _, kind := range []uint8{api.IvUnknown, api.IvUndef} {
			l = append(l, api.Ivl{Kind: kind, Lo: x, Hi: x}, api.Ivl{Kind: kind, Lo: x}, api.Ivl{Kind: kind, Hi: x})
		}
	}
	return l
}

// P9.2: of what is no interval nothing is known, whatever p is.
func TestOfNotValid(t *testing.T) {
	for _, a := range notIntervals() {
		for _, p := range allPrecisions() {
			isIvl(t, unknown(), expo.Of(a, p), a, p)
		}
	}
}
