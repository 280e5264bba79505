package zint_test

import (
	"math"
	"math/big"
	"testing"

	"stepstone/api"
	"stepstone/zint"
)

// P4.2: products of few factors, multiplied out one after the other.
func TestPow(t *testing.T) {
	got, e := zint.Pow(small(-2), 3)
	isInt(t, big.NewInt(-8), got, e, "Pow", small(-2), small(3))
	for _, a := range append(someInts(), zeros()...) {
		want := big.NewInt(1)
		for n := range 20 {
			got, e := zint.Pow(a, n)
			isInt(t, want, got, e, "Pow", a, small(int64(n)))
			want.Mul(want, bigOf(a))
		}
	}
	for _, n := range []int{63, 64, 65, 255, 256, 1000, 1023, 4095, 9999} {
		for _, a := range []int64{2, -2, 3, -3, 10, -10, 255, -255, 1 << 12} {
			got, e := zint.Pow(small(a), n)
			want := new(big.Int).Exp(big.NewInt(a), big.NewInt(int64(n)), nil)
			isInt(t, want, got, e, "Pow", small(a), small(int64(n)))
		}
	}
}

// P4.2: the most factors, and one more: only powers of 0, 1 and -1 go further.
func TestPowOfMany(t *testing.T) {
	for _, n := range []int{99999, 100000} {
		for _, a := range []int64{2, -2} {
			got, e := zint.Pow(small(a), n)
			want := new(big.Int).Exp(big.NewInt(a), big.NewInt(int64(n)), nil)
			isInt(t, want, got, e, "Pow", small(a), small(int64(n)))
		}
	}
	for _, n := range []int{100001, 100002, 131071, 1 << 40, math.MaxInt - 1, math.MaxInt} {
		for _, a := range []api.Int{small(2), small(-2), small(3), small(-10), intOf(pow2(64)), intOf(most())} {
			got, e := zint.Pow(a, n)
			fails(t, api.ErrLong, got, e, "Pow", a, small(int64(n)))
		}
	}
	for _, n := range []int{1, 2, 99999, 100000, 100001, 100002, 1<<40 + 1, math.MaxInt - 1, math.MaxInt} {
		for _, z := range zeros() {
			got, e := zint.Pow(z, n)
			isInt(t, new(big.Int), got, e, "Pow", z, small(int64(n)))
		}
		for _, pad := range []int{0, 3000} {
			got, e := zint.Pow(padded(small(1), pad), n)
			isInt(t, big.NewInt(1), got, e, "Pow", small(1), small(int64(n)))
			got, e = zint.Pow(padded(small(-1), pad), n)
			isInt(t, big.NewInt(1-2*int64(n%2)), got, e, "Pow", small(-1), small(int64(n)))
		}
	}
}

// P4.2: 2048 limbs as the result, and one bit more.
func TestPowAtTheLimit(t *testing.T) {
	for _, c := range []struct {
		a    *big.Int
		n    int
		fits bool
	}{
		{most(), 0, true}, {most(), 1, true}, {most(), 2, false}, {pow2(maxBits - 1), 1, true},
		{pow2(64), 2047, true}, {pow2(64), 2048, false}, {plus(pow2(64), -1), 2048, true}, {plus(pow2(64), 1), 2047, true}, {plus(pow2(64), -1), 2049, false},
		{pow2(maxBits / 2), 2, false}, {plus(pow2(maxBits/2), -1), 2, true}, {pow2(maxBits/2 - 1), 2, true},
		{pow2(43690), 3, true}, {pow2(43691), 3, false}, {big.NewInt(3), 82697, true}, {big.NewInt(3), 82698, false}, {big.NewInt(3), 100000, false},
		{big.NewInt(10), 39456, true}, {big.NewInt(10), 39457, false}, {big.NewInt(1 << 12), 10922, true}, {big.NewInt(1 << 12), 10923, false}, {pow2(100), 100000, false},
	} {
		for _, a := range []*big.Int{c.a, negative(c.a)} {
			got, e := zint.Pow(intOf(a), c.n)
			if !c.fits {
				fails(t, api.ErrLong, got, e, "Pow", intOf(a), small(int64(c.n)))
				continue
			}
			want := new(big.Int).Exp(a, big.NewInt(int64(c.n)), nil)
			isInt(t, want, got, e, "Pow", intOf(a), small(int64(c.n)))
		}
	}
}

// P4.2: wrong inputs: powers below 0, also of 0, 1 and -1.
func TestPowBelowZero(t *testing.T) {
	for _, a := range append(append(someInts(), zeros()...), intOf(most())) {
		for _, n := range []int{-1, -2, -100001, math.MinInt, math.MinInt + 1} {
			got, e := zint.Pow(a, n)
			fails(t, api.ErrArg, got, e, "Pow", a)
		}
	}
}
