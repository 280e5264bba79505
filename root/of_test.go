package root_test

import (
	"math"
	"math/big"
	"math/rand/v2"
	"testing"

	"stepstone/api"
	"stepstone/root"
)

// finePrecisions, coarsePrecisions and noPrecisions are what Of distinguishes: those of this layer, those of layer 7 alone, and none.
func finePrecisions() []int { return []int{1, 2, 64, api.MaxFine - 1, api.MaxFine} }

func coarsePrecisions() []int {
	return []int{api.MaxFine + 1, api.MaxFine + 2, 50000, api.MaxPrec - 1, api.MaxPrec}
}

func noPrecisions() []int {
	return []int{0, -1, -2, -api.MaxFine, api.MaxPrec + 1, api.MaxPrec + 2, math.MaxInt, math.MinInt}
}

// P8.2: the chapter's examples, and others by hand.
func TestOfByHand(t *testing.T) {
	for _, c := range []struct {
		a    string
		p    int
		want api.Ivl
	}{
		{"0 4", 4, unknown()}, {"-1 0", 4, undef()}, {"-4 -1", 4, undef()}, {"0 0", 4, undef()}, {"-1 4", 4, unknown()},
		{"1 4", 4, known("1 2")}, {"2 2", 4, known("11p-3 3p-1")}, {"2 3", 2, known("1 2")}, {"2 3", 4, known("11p-3 7p-2")}, {"9p-2 4", 1, known("1 2")}, {"9p-2 9p-2", 2, known("3p-1")}, {"9p-2", 1, known("1 2")},
		{"99 99", 4, known("9 5p1")}, {"1p-2 100", 4, known("1p-1 5p1")}, {"1p-1048576 1p1048576", 1, known("1p-524288 1p524288")}, {"1p-1048575 1p1048575", 1, known("1p-524288 1p524288")}, {"15 17", 5, known("15p-2 17p-2")},
	} {
		isIvl(t, c.want, root.Of(known(c.a), c.p), known(c.a), c.p)
	}
}

// notAboveZero are intervals of numbers below 0, or up to it.
func notAboveZero() []api.Ivl {
	l := []api.Ivl{some(small(-1, far), small(-1, -far)), some(written(negative(allOnes(maxBits)), 0), api.Dyad{}), some(small(-1, far), api.Dyad{}), some(small(-1, -far), small(-1, -far)), some(small(-1, -far), api.Dyad{})}
	for _, s := range []string{"-2 -1", "-1 -1", "-9p-2 -1p-70", "-4", "-3 0", "0 0", "-1p-200 0"} {
		l = append(l, known(s))
	}
	return l
}

// aroundZero are intervals from 0, or from below it, to above it.
func aroundZero() []api.Ivl {
	l := []api.Ivl{some(api.Dyad{}, small(1, -far)), some(small(-1, -far), small(1, -far)), some(small(-1, far), small(1, far)), some(api.Dyad{}, small(1, far)), some(api.Dyad{}, written(allOnes(maxBits), 0)), some(written(negative(allOnes(maxBits)), -far), small(3, 0))}
	for _, s := range []string{"0 1", "0 4", "-1 1", "-4 9", "-1p-200 2", "0 1p-200"} {
		l = append(l, known(s))
	}
	return l
}

func aboveZero() []api.Ivl {
	l := []api.Ivl{some(small(1, -far), small(1, -far)), some(small(1, -far), small(1, far)), some(small(3, -far), small(5, -far)), some(small(1, far), small(1, far)), some(small(3, far-1), small(3, far)), some(small(1, 0), written(allOnes(maxBits), 0)), some(written(plus(pow2(maxBits-1), 1), -far), written(allOnes(maxBits), -far)), some(written(allOnes(maxBits), -9), written(allOnes(maxBits), -9)), some(written(allOnes(maxBits), far-maxBits), small(1, far))}
	for _, s := range []string{"1", "4", "2", "3", "9p-2", "1 4", "2 3", "1p-1 1", "1p-200 1p-199", "1p-70 9", "45p-3 45p60", "99", "15 17", "1 1p1000"} {
		l = append(l, known(s))
	}
	for _, n := range []int{63, 64, 65, 130, 2000} {
		l = append(l, some(odd(square(allOnes(n)), 2), odd(square(allOnes(n)), 2)), some(odd(plus(square(allOnes(n)), -1), -8), odd(plus(square(allOnes(n)), 1), -8)), some(odd(pow2(n), 0), odd(plus(pow2(n), 1), 0)))
	}
	return l
}

// bounded is the interval that Of is to return for one above 0.
func bounded(a api.Ivl, p int) api.Ivl {
	lo, _ := rootOf(valueOf(a.Lo), p)
	_, hi := rootOf(valueOf(a.Hi), p)
	return some(lo, hi)
}

// P8.2: where both bounds are, with p that is this layer's, layer 7's alone, and none: a p that is none counts first, then Hi, then Lo and p.
func TestOf(t *testing.T) {
	for _, p := range finePrecisions() {
		for _, a := range notAboveZero() {
			isIvl(t, undef(), root.Of(a, p), a, p)
		}
		for _, a := range aroundZero() {
			isIvl(t, unknown(), root.Of(a, p), a, p)
		}
		for _, a := range aboveZero() {
			isIvl(t, bounded(a, p), root.Of(a, p), a, p)
		}
	}
	for _, p := range coarsePrecisions() {
		for _, a := range notAboveZero() {
			isIvl(t, undef(), root.Of(a, p), a, p)
		}
		for _, a := range append(aroundZero(), aboveZero()...) {
			isIvl(t, unknown(), root.Of(a, p), a, p)
		}
	}
	for _, p := range noPrecisions() {
		for _, l := range [][]api.Ivl{notAboveZero(), aroundZero(), aboveZero()} {
			for _, a := range l {
				isIvl(t, unknown(), root.Of(a, p), a, p)
			}
		}
	}
}

// P8.2: many intervals above 0, many of one number alone or of two next to each other.
func TestOfAny(t *testing.T) {
	g := rand.New(rand.NewPCG(8, 2))
	for range 5000 {
		lo := anyDyad(g, 1+g.IntN(4))
		x := bigOf(lo.M)
		hi := new(big.Int).Add(x, []*big.Int{big.NewInt(0), big.NewInt(1), big.NewInt(g.Int64()), new(big.Int).Lsh(x, uint(g.IntN(100)))}[g.IntN(4)])
		a := some(odd(x, lo.E), odd(hi, lo.E))
		p := 1 + g.IntN(150)
		isIvl(t, bounded(a, p), root.Of(a, p), a, p)
	}
}

func allPrecisions() []int {
	return append(append(finePrecisions(), coarsePrecisions()...), noPrecisions()...)
}

// P8.2: what is known of no number stays so, whatever p is.
func TestOfKinds(t *testing.T) {
	for _, p := range allPrecisions() {
		isIvl(t, unknown(), root.Of(unknown(), p), unknown(), p)
		isIvl(t, undef(), root.Of(undef(), p), undef(), p)
		isIvl(t, unknown(), root.Of(api.Ivl{}, p), api.Ivl{}, p)
	}
}

// notNormal are numbers that are valid, but could be written otherwise, or that are not valid at all: no interval has such a bound.
func notNormal() []api.Dyad {
	minus := api.Int{Neg: true}
	l := []api.Dyad{small(2, 0), small(4, 0), small(-2, 0), small(6, -1), small(2, far), written(pow2(64), 0), written(pow2(64), -64), padded(small(1, 0), 1), padded(small(-5, 3), 2), padded(small(3, 0), 4000),
		{M: minus}, {E: 1}, {E: -1}, {E: far}, {M: minus, E: 2}, {M: api.Int{M: api.Nat{0}}}, {M: api.Int{Neg: true, M: api.Nat{0, 0}}}}
	return append(l, notValid()...)
}

// notIntervals are of other kinds, with bounds in the wrong order, not normal, not valid, or where there are to be none.
func notIntervals() []api.Ivl {
	one, two, zero := small(1, 0), small(1, 1), api.Dyad{}
	var l []api.Ivl
	for _, kind := range []uint8{3, 4, 5, 127, 128, 129, 254, 255} {
		l = append(l, api.Ivl{Kind: kind}, api.Ivl{Kind: kind, Lo: one, Hi: two}, api.Ivl{Kind: kind, Lo: small(-1, 0), Hi: zero})
	}
	for _, s := range []string{"2 1", "1 -1", "-1 -2", "0 -1", "1 0", "0 -1p-200", "1p-200 0", "9p-3 1", "1p1048576 1p-1048576", "-1p-1048576 -1p1048576"} {
		l = append(l, known(s))
	}
	for _, x := range notNormal() {
		l = append(l, some(x, x), some(x, small(1, far)), some(small(-1, far), x), some(zero, x), some(x, zero))
	}
	for _, x := range append(notNormal(), one, small(-3, 5), small(1, -far)) {
		for _, kind := range []uint8{api.IvUnknown, api.IvUndef} {
			l = append(l, api.Ivl{Kind: kind, Lo: x, Hi: x}, api.Ivl{Kind: kind, Lo: x}, api.Ivl{Kind: kind, Hi: x})
		}
	}
	return l
}

// P8.2: of what is no interval nothing is known, whatever p is.
func TestOfNotValid(t *testing.T) {
	for _, a := range notIntervals() {
		for _, p := range allPrecisions() {
			isIvl(t, unknown(), root.Of(a, p), a, p)
		}
	}
}
