package frac_test

import (
	"math"
	"math/big"
	"math/rand/v2"
	"slices"
	"strings"
	"testing"

	"stepstone/api"
	"stepstone/frac"
)

// inUnits is the number in units of the last of n places, rounded half up: down, one half added.
func inUnits(a api.Frac, n int) *big.Int {
	x := valueOf(a)
	x.Mul(x, new(big.Rat).SetInt(power(10, n)))
	return floorOf(x.Add(x, big.NewRat(1, 2)))
}

func withDot(units *big.Int, n int) string {
	sign := ""
	if units.Sign() < 0 {
		sign = "-"
	}
	digits := new(big.Int).Abs(units).String()
	for len(digits) <= n {
		digits = "0" + digits
	}
	if n == 0 {
		return sign + digits
	}
	return sign + digits[:len(digits)-n] + "." + digits[len(digits)-n:]
}

// places checks Places: it is empty if the rounded number, in units of its last place, is too long. Where only N is, in these units, either answer will do.
func places(t *testing.T, a api.Frac, n int) {
	t.Helper()
	got, units := frac.Places(a, n), inUnits(a, n)
	want := withDot(units, n)
	if anyTooLong(units) || got == "" && anyTooLong(times(bigOf(a.N), power(10, n))) {
		want = ""
	}
	if got != want {
		t.Errorf("%d places of %s = %.100s, want %.100s", n, shown(a), got, want)
	}
}

// P6.5: the chapter's examples, and others by hand: half way, of each sign; what comes to 0 from below; what carries on to one more digit.
func TestPlacesByHand(t *testing.T) {
	for _, c := range []struct {
		n, d   int64
		places int
		want   string
	}{
		{-1, 8, 2, "-0.12"}, {2, 3, 3, "0.667"}, {7, 1, 0, "7"}, {1, 8, 2, "0.13"}, {-1, 8, 3, "-0.125"}, {1, 8, 4, "0.1250"}, {0, 1, 0, "0"}, {0, 5, 3, "0.000"}, {1, 2, 0, "1"}, {-1, 2, 0, "0"}, {3, 2, 0, "2"}, {-3, 2, 0, "-1"}, {-5, 2, 0, "-2"}, {-5, 3, 0, "-2"}, {-4, 3, 0, "-1"},
		{-1, 1000, 2, "0.00"}, {-1, 200, 2, "0.00"}, {-3, 500, 2, "-0.01"}, {1, 200, 2, "0.01"}, {1, 201, 2, "0.00"}, {-1, 3, 0, "0"}, {-2, 3, 0, "-1"},
		{999, 1000, 2, "1.00"}, {-999, 1000, 2, "-1.00"}, {9995, 1000, 2, "10.00"}, {-9995, 1000, 2, "-9.99"}, {-9996, 1000, 2, "-10.00"}, {99, 10, 0, "10"}, {12, 1, 1, "12.0"}, {-12, 1, 2, "-12.00"}, {-120, 10, 0, "-12"}, {100, 1, 0, "100"}, {1, 3, 1, "0.3"}, {10, 3, 1, "3.3"}, {5, 100, 1, "0.1"}, {-5, 100, 1, "0.0"}, {-15, 100, 1, "-0.1"}, {15, 100, 1, "0.2"}, {1, 1 << 20, 5, "0.00000"},
	} {
		if got := frac.Places(small(c.n, c.d), c.places); got != c.want {
			t.Errorf("%d places of %d/%d = %q, want %q", c.places, c.n, c.d, got, c.want)
		}
	}
}

// P6.5: numbers of any kind, however they are written, and such as are just half way between two, or next to that.
func TestPlaces(t *testing.T) {
	g := rand.New(rand.NewPCG(6, 70))
	for n := int64(-60); n <= 60; n++ {
		for d := int64(1); d <= 40; d++ {
			places(t, small(n, d), int(n+d+60)%4)
		}
	}
	for _, a := range slices.Concat(someFracs(), zeros()) {
		for _, n := range []int{0, 1, 2, 7, 19, 20, 40} {
			places(t, a, n)
		}
	}
	anyPairs(71, 5000, 5, func(a, b api.Frac) { places(t, a, g.IntN(50)) })
	for range 3000 {
		n := g.IntN(30)
		half := plus(times(big.NewInt(2), bigOfNat(anyNat(g, 2))), 1)
		for _, m := range []*big.Int{half, negative(half)} {
			a := fracOf(m, times(big.NewInt(2), power(10, n)))
			places(t, a, n)
			near := widened(a, big.NewInt(1000))
			places(t, near, n)
			for _, d := range []int64{-1, 1} {
				places(t, fracOf(plus(bigOf(near.N), d), bigOfNat(near.D)), n)
			}
		}
	}
}

// P6.5: 1000 places, none, and more or less than that.
func TestPlacesMost(t *testing.T) {
	for _, a := range []api.Frac{small(1, 3), small(-22, 7), small(0, 7), small(5, 1), fracOf(big.NewInt(-1), power(10, 1000)), fracOf(big.NewInt(-1), times(big.NewInt(2), power(10, 1000))), fracOf(big.NewInt(-3), times(big.NewInt(2), power(10, 1000))), fracOf(big.NewInt(1), power(7, 3000))} {
		for _, n := range []int{0, 1, 999, 1000} {
			places(t, a, n)
		}
		for _, n := range []int{-1, -1000, 1001, 1002, 1 << 40, math.MaxInt, math.MinInt} {
			if got := frac.Places(a, n); got != "" {
				t.Errorf("%d places of %s = %.100s", n, shown(a), got)
			}
		}
	}
}

// P6.5: results that are just not too long, and such as are: by their places, by being rounded.
func TestPlacesAtTheLimit(t *testing.T) {
	full := allOnes(maxBits)
	for _, n := range []int{0, 1, 2, 500, 1000} {
		most := new(big.Int).Quo(full, power(10, n))
		for d := int64(-1); d <= 2; d++ {
			if m := plus(most, d); m.BitLen() <= maxBits {
				places(t, fracOf(m, big.NewInt(1)), n)
				places(t, fracOf(negative(m), big.NewInt(1)), n)
			}
		}
	}
	if got := frac.Places(fracOf(full, big.NewInt(1)), 0); got != full.String() {
		t.Errorf("no places of the longest number: %d bytes", len(got))
	}
	for _, n := range []int{1, 2, 1000} {
		for _, a := range []api.Frac{fracOf(full, big.NewInt(1)), fracOf(negative(full), big.NewInt(1)), fracOf(full, big.NewInt(2)), fracOf(pow2(maxBits-1), big.NewInt(3))} {
			if got := frac.Places(a, n); got != "" {
				t.Errorf("%d places of %s: %d bytes", n, shown(a), len(got))
			}
		}
	}
}

// P6.5: parts of 2048 limbs whose quotient is not long: what is left of the division may fill all limbs.
func TestPlacesOfLongParts(t *testing.T) {
	full, highest := allOnes(maxBits), pow2(maxBits-1)
	third := new(big.Int).Quo(full, big.NewInt(3))
	for _, d := range []*big.Int{full, plus(full, -1), highest, plus(highest, 1), plus(highest, -1), third} {
		for _, m := range []*big.Int{full, plus(full, -1), highest, plus(highest, -1), third, negative(third), negative(full), big.NewInt(1), big.NewInt(-1), big.NewInt(0), new(big.Int).Quo(d, big.NewInt(2)), negative(new(big.Int).Quo(d, big.NewInt(200)))} {
			for _, n := range []int{0, 1, 2, 25} {
				places(t, fracOf(m, d), n)
			}
		}
	}
	// Down from it would be one bit too long; half up is toward 0.
	units := plus(times(big.NewInt(21), pow2(maxBits)), -16)
	places(t, fracOf(negative(new(big.Int).Quo(units, big.NewInt(100))), big.NewInt(21)), 2)
	if got := frac.Places(fracOf(big.NewInt(1), full), 1000); strings.Trim(got, "0") != "." || len(got) != 1002 {
		t.Errorf("1000 places of nearly 0 = %.20s, %d bytes", got, len(got))
	}
}
