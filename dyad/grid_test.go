package dyad_test

import (
	"math"
	"math/big"
	"slices"
	"testing"

	"stepstone/api"
	"stepstone/dyad"
)

func grids(t *testing.T, a api.Dyad, e int) {
	t.Helper()
	got, err := dyad.Grid(a, e)
	x := valueOf(a)
	if x.m.Sign() != 0 && x.m.BitLen()+x.e-e > maxBits {
		if err != api.ErrBig || got.Neg || len(got.M) > 0 {
			t.Errorf("Grid of %s by %d: error %d, Neg %v, %d limbs, want error %d", shown(a), e, err, got.Neg, len(got.M), api.ErrBig)
		}
		return
	}
	want := x.m
	if x.e >= e {
		want = x.in(e)
	} else {
		// The library's quotient is rounded toward 0: what is below 0, and left something, is one less.
		rest := new(big.Int)
		want, rest = new(big.Int).QuoRem(x.m, pow2(e-x.e), rest)
		if rest.Sign() < 0 {
			want = plus(want, -1)
		}
	}
	isExact(t, exactly(want, 0), normal(got), err, "Grid", a, small(1, e))
	if n := len(got.M); n > 0 && got.M[n-1] == 0 || n == 0 && got.Neg {
		t.Errorf("Grid of %s by %d: not normal: Neg %v, %d limbs", shown(a), e, got.Neg, n)
	}
}

// normal is the integer as a number that can be held against others.
func normal(m api.Int) api.Dyad {
	x := exactly(bigOf(m), 0)
	return dyadOf(x.m, x.e)
}

// P5.4: by hand, below 0 too.
func TestGridByHand(t *testing.T) {
	for _, c := range []struct {
		m       int64
		e, grid int
		want    int64
	}{
		{5, 0, 0, 5}, {5, 0, 1, 2}, {-5, 0, 1, -3}, {5, 0, 2, 1}, {-5, 0, 2, -2}, {5, 0, 3, 0}, {-5, 0, 3, -1}, {-5, 0, 100, -1}, {5, 0, -2, 20}, {-5, 0, -2, -20},
		{12, -2, 0, 3}, {12, -2, 1, 1}, {-12, -2, 1, -2}, {-12, -2, -1, -6}, {3, 5, 5, 3}, {3, 5, 4, 6}, {3, 5, 6, 1}, {-3, 5, 6, -2}, {1, far, far, 1}, {-1, -far, far, -1}, {1, -far, far, 0}, {1, -far, -far, 1}, {0, 3, far, 0}, {0, -far, -far, 0},
	} {
		got, e := dyad.Grid(small(c.m, c.e), c.grid)
		if e != api.OK || bigOf(got).Cmp(big.NewInt(c.want)) != 0 {
			t.Errorf("Grid of %dp%d by %d = %s, error %d, want %d", c.m, c.e, c.grid, bigOf(got), e, c.want)
		}
	}
}

// P5.4: e above, at and below the number's E, as it is written, and as it is normal; 0; to the bounds.
func TestGrid(t *testing.T) {
	for _, a := range slices.Concat(someDyads(), tooFar(), zeros()) {
		x := valueOf(a)
		for _, e := range []int{a.E - 1, a.E, a.E + 1, x.e - 1, x.e, x.e + 1, x.e - 64, x.e - 100, x.e + 63, x.e + 64, x.e + x.m.BitLen() - 1, x.e + x.m.BitLen(), x.e + x.m.BitLen() + 1, 0, 7, -7, far, -far} {
			if -far <= e && e <= far {
				grids(t, a, e)
			}
		}
	}
	anyPairs(59, 20000, 6, func(a, b api.Dyad) { grids(t, a, b.E) })
}

// P5.4: integers of 2048 limbs, and of one bit more.
func TestGridAtTheLimit(t *testing.T) {
	for _, m := range []*big.Int{big.NewInt(1), big.NewInt(3), pow2(64), allOnes(65), allOnes(maxBits - 1), allOnes(maxBits), pow2(maxBits - 1)} {
		n := maxBits - m.BitLen()
		for _, e := range []int{0, 17, -20000, far - maxBits, -far + maxBits} {
			for _, d := range []int{-1, 0, 1, 2} {
				grids(t, dyadOf(m, e), e-n-d)
				grids(t, dyadOf(negative(m), e), e-n-d)
			}
		}
	}
	grids(t, small(1, far), -far)
	grids(t, small(-1, far), far-maxBits+1)
	grids(t, small(2, far), far-maxBits+1)
	grids(t, small(2, far), far-maxBits+2)
}

// P5.4: wrong inputs: exponents that are not valid, also for 0.
func TestGridWrong(t *testing.T) {
	for _, a := range []api.Dyad{small(0, 0), small(1, 0), small(-5, far), small(7, -far)} {
		for _, e := range []int{far + 1, -far - 1, 2 * far, math.MaxInt, math.MinInt} {
			if got, err := dyad.Grid(a, e); err != api.ErrBig || got.Neg || len(got.M) > 0 {
				t.Errorf("Grid of %s by %d: error %d", shown(a), e, err)
			}
		}
	}
}
