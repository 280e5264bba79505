package weigh_test

import (
	"math/big"
	"math/rand/v2"
	"slices"
	"strconv"
	"testing"

	"stepstone/api"
	"stepstone/weigh"
)

// P26.1: half of the square of a push on its grid, divided by the mass, and the sum of that.
func TestWeight(t *testing.T) {
	half := rat(1, 2)
	for _, r := range []struct {
		grid int
		mass []*big.Rat
		p    []int64
		want *big.Rat
	}{
		{0, nil, nil, rat(0, 1)},
		{60, nil, []int64{}, rat(0, 1)},
		{0, []*big.Rat{rat(1, 1)}, []int64{0}, rat(0, 1)},
		{0, []*big.Rat{rat(1, 1)}, []int64{1}, half},
		{0, []*big.Rat{rat(1, 1)}, []int64{-1}, half},
		{0, []*big.Rat{rat(1, 1)}, []int64{-7}, rat(49, 2)},
		{4, []*big.Rat{rat(1, 1)}, []int64{16}, half},
		{4, []*big.Rat{rat(1, 1)}, []int64{-1}, rat(1, 512)},
		{1, []*big.Rat{rat(1, 1)}, []int64{3}, rat(9, 8)},
		{0, []*big.Rat{rat(3, 1)}, []int64{2}, rat(2, 3)},
		{0, []*big.Rat{half}, []int64{1}, rat(1, 1)},
		{0, []*big.Rat{rat(2, 3)}, []int64{4}, rat(12, 1)},
		{2, []*big.Rat{rat(2, 3)}, []int64{4}, rat(3, 4)},
		{0, []*big.Rat{rat(1, 1), rat(2, 1), rat(1, 3)}, []int64{1, 2, -1}, rat(3, 1)},
		{0, []*big.Rat{rat(2, 1), rat(1, 1), rat(1, 3)}, []int64{1, 2, -1}, rat(15, 4)},
		{3, []*big.Rat{rat(1, 1), rat(1, 1)}, []int64{3, 5}, rat(17, 64)},
		{0, []*big.Rat{rat(1, 1), rat(9, 1)}, []int64{0, 3}, half},
		{60, []*big.Rat{rat(1, 1)}, []int64{1}, inverse(pow2(121))},
		{60, []*big.Rat{rat(5, 1)}, []int64{1 << 60}, rat(1, 10)},
	} {
		f := massive(r.mass...)
		f.Grid = r.grid
		weightIs(t, "by hand", f, ints(r.p...), r.want)
	}
	for grid := range mostGrid + 1 {
		weightIs(t, "grid", gridded(1, grid), ints(-3), ratio(big.NewInt(9), pow2(2*grid+1)))
	}
}

// P26.1: Grid at its edges and beyond; Step, Level and Count don't matter here.
func TestWeightWay(t *testing.T) {
	for _, grid := range append(farIntegers(), 0, 1, 59, 60, 61) {
		want := api.ErrArg
		if grid >= 0 && grid <= mostGrid {
			want = api.OK
		}
		for n := range 3 {
			if _, e := weight(t, gridded(n, grid), make([]api.Int, n)); e != want {
				t.Errorf("Grid %d: %d", grid, e)
			}
		}
	}
	for _, n := range farIntegers() {
		f := way(1)
		f.Level, f.Count, f.Step = n, n, noNumbers()[1+(n&7)]
		weightIs(t, "other parts of the way", f, ints(1), rat(1, 2))
	}
}

// P26.1: each Mass: what is not valid, or not above 0; and what is, in any way of being written.
func TestWeightMass(t *testing.T) {
	for i := range 3 {
		with := func(m api.Frac) api.Frog {
			f := way(3)
			f.Mass[i] = m
			return f
		}
		for _, m := range noNumbers() {
			weightFails(t, "mass", api.ErrArg, with(m), ints(1, 1, 1))
			weightFails(t, "mass", api.ErrArg, with(m), ints(0, 0, 0))
		}
		for _, m := range someNumbers() {
			weight(t, with(m), ints(1, 1, 1))
			weight(t, with(m), ints(2, -3, 0))
		}
		weightIs(t, "not in lowest terms", with(timesOf(rat(2, 3), big.NewInt(12))), ints(1, 1, 1), rat(7, 4))
		weightIs(t, "limbs of 0", with(api.Frac{N: topped(intOf(big.NewInt(2)), 5), D: api.Nat{3, 0, 0}}), ints(1, 1, 1), rat(7, 4))
		// Not in lowest terms both parts are as long as they may be: that's 1.
		weightIs(t, "long", with(timesOf(rat(1, 1), near(mostBits, -1))), ints(1, 1, 1), rat(3, 2))
	}
}

// P26.1: as many Mass as pushes, however many there are.
func TestWeightCounts(t *testing.T) {
	for _, pushes := range []int{0, 1, 2, 3, mostPars, mostPars + 1, 1000} {
		for _, masses := range []int{0, 1, 2, 3, pushes - 1, pushes, pushes + 1, 2 * pushes} {
			f, p := way(max(masses, 0)), slices.Repeat(ints(-4), pushes)
			if len(f.Mass) != pushes {
				weightFails(t, "counts", api.ErrArg, f, p)
				continue
			}
			weightIs(t, "counts", f, p, rat(int64(8*pushes), 1))
		}
	}
	for _, p := range [][]api.Int{nil, {}} {
		for _, mass := range [][]api.Frac{nil, {}} {
			weightIs(t, "none", api.Frog{Mass: mass}, p, rat(0, 1))
			weightFails(t, "a mass too few", api.ErrArg, api.Frog{Mass: mass}, ints(0))
			weightFails(t, "a mass too many", api.ErrArg, way(1), p)
		}
	}
}

// long are integers, and whether they are pushes: at the last limb that is not one too many, and beyond it.
func long() map[*big.Int]bool {
	return map[*big.Int]bool{
		near(fineBits, -1): true, near(fineBits, -7): true, pow2(fineBits - 1): true, near(fineBits-64, 5): true,
		pow2(fineBits): false, near(fineBits, 1): false, near(fineBits+64, -1): false, pow2(fineBits + 640): false,
		near(mostBits, -1): false, pow2(mostBits - 1): false, pow2(mostBits): false, near(2*mostBits, 1): false,
	}
}

// P26.1: pushes of MaxFineLimbs limbs, and of one more; limbs of 0 on top do not count.
func TestWeightLongPush(t *testing.T) {
	for n, is := range long() {
		square := new(big.Int).Mul(n, n)
		for zeros := range 3 {
			for _, n := range []*big.Int{n, minus(n)} {
				for i := range 2 {
					p := ints(1, 1)
					p[i] = topped(intOf(n), zeros*40)
					if is {
						weightIs(t, "long", way(2), p, plus(ratio(square, big.NewInt(2)), rat(1, 2)))
					} else {
						weightFails(t, "too long", api.ErrArg, way(2), p)
					}
				}
			}
		}
	}
	weightIs(t, "0 of many limbs", way(1), []api.Int{topped(api.Int{}, 5000)}, rat(0, 1))
}

// heavy is a mass by which a push of 1 on Grid 0 weighs x: so x is a half of its inverse.
func heavy(x *big.Rat) *big.Rat {
	m := new(big.Rat).Mul(x, rat(2, 1))
	return m.Inv(m)
}

// P26.1: ErrLong: twice the mass, the quotient, the sum, the product of both denominators: at the last number that has room, and the first that has none.
func TestWeightTooLong(t *testing.T) {
	const half = mostBits / 2
	last := near(mostBits-1, -1)
	for i, r := range []struct {
		mass []*big.Rat
		p    []int64
		want api.Errno
	}{
		{[]*big.Rat{whole(last)}, []int64{1}, api.OK},
		{[]*big.Rat{whole(pow2(mostBits - 1))}, []int64{1}, api.ErrLong},
		{[]*big.Rat{whole(pow2(mostBits - 1))}, []int64{0}, api.ErrLong},
		{[]*big.Rat{whole(near(mostBits, -1))}, []int64{1}, api.ErrLong},
		// Twice of it is 2^131071 + 1, but it is computed by a longer product.
		{[]*big.Rat{ratio(near(mostBits-1, 1), big.NewInt(2))}, []int64{1}, api.ErrLong},
		{[]*big.Rat{ratio(last, big.NewInt(2))}, []int64{1}, api.OK},
		{[]*big.Rat{inverse(near(mostBits, -1))}, []int64{1}, api.OK},
		{[]*big.Rat{inverse(near(mostBits, -1))}, []int64{-2}, api.ErrLong},
		{[]*big.Rat{inverse(near(mostBits, -1))}, []int64{0}, api.OK},
		{[]*big.Rat{inverse(near(mostBits-2, -1))}, []int64{-2}, api.OK},
		{[]*big.Rat{inverse(near(mostBits-1, -1))}, []int64{2}, api.ErrLong},
		{[]*big.Rat{inverse(pow2(mostBits - 1))}, []int64{2}, api.ErrLong},
		{[]*big.Rat{inverse(pow2(mostBits - 2))}, []int64{2}, api.OK},
		// Sums.
		{[]*big.Rat{heavy(whole(last)), heavy(whole(last))}, []int64{1, 1}, api.OK},
		{[]*big.Rat{heavy(whole(last)), heavy(whole(last)), heavy(rat(1, 1))}, []int64{1, 1, 1}, api.OK},
		{[]*big.Rat{heavy(whole(last)), heavy(whole(last)), heavy(rat(2, 1))}, []int64{1, 1, 1}, api.ErrLong},
		{[]*big.Rat{heavy(whole(last)), heavy(whole(last)), heavy(rat(2, 1))}, []int64{1, 1, 0}, api.OK},
		{[]*big.Rat{heavy(rat(2, 1)), heavy(whole(last)), heavy(whole(last))}, []int64{1, 1, 1}, api.ErrLong},
		{[]*big.Rat{heavy(whole(last)), heavy(whole(last)), heavy(whole(last)), heavy(rat(1, 1))}, []int64{1, 1, 1, 0}, api.ErrLong},
		// Denominators: their product is 2^131072 - 1, or a little more, although they are the same.
		{[]*big.Rat{heavy(inverse(near(half, 1))), heavy(inverse(near(half, -1)))}, []int64{1, 1}, api.OK},
		{[]*big.Rat{heavy(inverse(near(half, 1))), heavy(inverse(near(half, 1)))}, []int64{1, 1}, api.ErrLong},
		{[]*big.Rat{heavy(inverse(near(half, 1))), heavy(inverse(near(half, 3)))}, []int64{1, 1}, api.ErrLong},
		{[]*big.Rat{heavy(inverse(near(half, 1))), heavy(inverse(near(half, 1)))}, []int64{1, 0}, api.OK},
		// In order: two that are the same first, whose sum is shorter.
		{[]*big.Rat{heavy(inverse(near(half, -2))), heavy(inverse(near(half, -2))), heavy(inverse(near(half+1, 1)))}, []int64{1, 1, 1}, api.OK},
		{[]*big.Rat{heavy(inverse(near(half+1, 1))), heavy(inverse(near(half, -2))), heavy(inverse(near(half, -2)))}, []int64{1, 1, 1}, api.ErrLong},
		{[]*big.Rat{heavy(inverse(near(half, -2))), heavy(inverse(near(half+1, 1))), heavy(inverse(near(half, -2)))}, []int64{1, 1, 1}, api.ErrLong},
	} {
		if _, e := weight(t, massive(r.mass...), ints(r.p...)); e != r.want {
			t.Errorf("row %d: error %d, want %d", i, e, r.want)
		}
	}
	// A push of the most limbs: its square has room, also divided by a mass that is small, but not by a smaller one.
	square := new(big.Int).Mul(near(fineBits, -1), near(fineBits, -1))
	weightIs(t, "long push", massive(inverse(pow2(mostBits-2*fineBits+1))), intsOf(near(fineBits, -1)), whole(square.Lsh(square, mostBits-2*fineBits)))
	weightFails(t, "long push", api.ErrLong, massive(inverse(pow2(mostBits-2*fineBits+2))), intsOf(near(fineBits, -1)))
}

// P26.1: any ways and pushes, now and then of another number.
func TestAnyWeight(t *testing.T) {
	g := rand.New(rand.NewPCG(26, 1))
	counts := map[api.Errno]int{}
	for range 6000 {
		pars := g.IntN(5)
		f := anyWay(g, max(pars+(g.IntN(10)-1)/8*(1-2*g.IntN(2)), 0))
		if g.IntN(10) == 0 {
			f.Grid = oneOf(g, farIntegers()...)
		}
		if len(f.Mass) > 0 && g.IntN(10) == 0 {
			f.Mass[g.IntN(len(f.Mass))] = oneOf(g, append(noNumbers(), someNumbers()...)...)
		}
		p := anyInts(g, pars, max(f.Grid, 0)%61)
		if pars > 0 && g.IntN(20) == 0 {
			p[g.IntN(pars)] = topped(intOf(anyBits(g, fineBits+64)), g.IntN(3))
		}
		_, e := weight(t, f, p)
		counts[e]++
	}
	if counts[api.OK] < 3000 || counts[api.ErrArg] < 500 || counts[api.ErrLong] < 20 {
		t.Error(counts)
	}
}

// Errors: a call whose arguments are none returns ErrArg.
func TestWeightOfNothing(t *testing.T) {
	if x, e := weigh.Weight(api.Frog{Grid: -1}, nil); e != api.ErrArg || x.D != nil || x.N.M != nil {
		t.Error(x, e)
	}
	x, e := weigh.Weight(api.Frog{}, nil)
	if e != api.OK || len(x.N.M) > 0 || x.N.Neg || !slices.Equal(x.D, api.Nat{1}) {
		t.Error("no pushes: " + strconv.Itoa(int(e)))
	}
}
