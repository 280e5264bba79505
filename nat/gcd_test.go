package nat_test

import (
	"math/big"
	"math/rand/v2"
	"slices"
	"testing"

	"stepstone/api"
	"stepstone/nat"
)

func hasDivisor(t *testing.T, a, b api.Nat) {
	t.Helper()
	want := new(big.Int).GCD(nil, nil, bigOf(a), bigOf(b))
	got, e := nat.Gcd(a, b)
	isNat(t, want, got, e, "Gcd", a, b)
	got, e = nat.Gcd(b, a)
	isNat(t, want, got, e, "Gcd", b, a)
}

// P3.5: the chapter's example, 0 with each number, and numbers whose divisors are easily told.
func TestGcdExamples(t *testing.T) {
	for _, c := range []struct{ a, b, want uint64 }{
		{12, 18, 6}, {18, 12, 6}, {0, 0, 0}, {0, 5, 5}, {5, 0, 5}, {1, 9, 1}, {7, 7, 7}, {35, 64, 1}, {ones, 3, 3}, {ones, ones, ones}, {half, half >> 1, half >> 1},
	} {
		got, e := nat.Gcd(nat.Of(c.a), nat.Of(c.b))
		isNat(t, new(big.Int).SetUint64(c.want), got, e, "Gcd", nat.Of(c.a), nat.Of(c.b))
	}
	for _, z := range zeros() {
		for _, a := range append(append(someNumbers(), zeros()...), allOnes(2048)) {
			got, e := nat.Gcd(a, z)
			isNat(t, bigOf(a), got, e, "Gcd", a, z)
			got, e = nat.Gcd(z, a)
			isNat(t, bigOf(a), got, e, "Gcd", z, a)
		}
	}
}

// P3.5: all pairs of the numbers, and many others.
func TestGcd(t *testing.T) {
	l := someNumbers()
	for _, a := range l {
		for _, b := range l {
			hasDivisor(t, a, b)
		}
	}
	for a := range uint64(60) {
		for b := range uint64(60) {
			hasDivisor(t, nat.Of(a), nat.Of(b))
		}
	}
	anyPairs(36, 20000, 6, func(a, b api.Nat) { hasDivisor(t, a, b) })
	anyPairs(37, 1000, 40, func(a, b api.Nat) { hasDivisor(t, a, b) })
}

// P3.5: two numbers with a divisor of their own, of each number of limbs.
func TestGcdOfMultiples(t *testing.T) {
	g := rand.New(rand.NewPCG(3, 5))
	for range 3000 {
		d, a, b := anyNat(g, g.IntN(9), g.IntN(3)), anyNat(g, g.IntN(9), g.IntN(3)), anyNat(g, g.IntN(3), g.IntN(3))
		m, _ := nat.Mul(d, a)
		n, _ := nat.Mul(d, b)
		hasDivisor(t, m, n)
	}
}

// P3.5: rows of remainders whose quotients are all 1, are greater than a limb, or that the top limbs do not tell.
func TestGcdRows(t *testing.T) {
	a, b := big.NewInt(1), big.NewInt(1)
	for n := range 3000 {
		a, b = b, new(big.Int).Add(a, b)
		if n < 500 || n%97 == 0 {
			hasDivisor(t, natOf(a), natOf(b))
			hasDivisor(t, natOf(new(big.Int).Mul(a, pow10(30))), natOf(new(big.Int).Mul(b, pow10(30))))
		}
	}
	a, b = big.NewInt(1), new(big.Int)
	for n := range 40 {
		a, b = new(big.Int).Add(new(big.Int).Mul(a, plus(pow2(60+n), int64(n))), b), a
		hasDivisor(t, natOf(a), natOf(b))
	}
	for n := 2; n < 20; n++ {
		for d := range int64(5) {
			near := append(anyNumber(n), 1)
			hasDivisor(t, near, natOf(plus(bigOf(near), d)))
			hasDivisor(t, allOnes(n), natOf(plus(bigOf(allOnes(n)), -d)))
			hasDivisor(t, allOnes(n), allOnes(n+int(d)))
		}
	}
}

// P3.5: numbers that are nearly in a small ratio, with limbs whose small multiples end in ones: so steps go by small factors, and carry from limb to limb.
func TestGcdSmallRatios(t *testing.T) {
	g := rand.New(rand.NewPCG(3, 12))
	for range 60000 {
		unit := half>>4 + g.Uint64N(half>>4)
		limbs := func(n int, top uint64) api.Nat {
			a := make(api.Nat, n)
			for i := range a {
				m := 1 + g.Uint64N(13)
				a[i] = ones/m*(1+g.Uint64N(m)) + g.Uint64N(2)
			}
			a[n-1] = top + g.Uint64N(1<<g.IntN(30))
			return a
		}
		n := 2 + g.IntN(4)
		hasDivisor(t, limbs(n, unit*(1+g.Uint64N(13))), limbs(n, unit*(1+g.Uint64N(13))))
	}
}

// P3.5: numbers of up to 2048 limbs.
func TestGcdLong(t *testing.T) {
	half := anyNumber(1000)
	m, _ := nat.Mul(half, append(anyNumber(900), 2))
	n, _ := nat.Mul(half, append(make(api.Nat, 900), 7, 1))
	for _, p := range [][2]api.Nat{
		{m, n}, {allOnes(2048), allOnes(2048)}, {allOnes(2048), allOnes(1536)}, {allOnes(2048), append(make(api.Nat, 2047), 1)},
		{append(allOnes(2048), 0), anyNumber(2048)}, {allOnes(2048), api.Nat{15}}, {allOnes(2048), api.Nat{3, 1}},
	} {
		hasDivisor(t, p[0], p[1])
	}
}

func hasRoot(t *testing.T, a api.Nat) {
	t.Helper()
	got, e := nat.Root(a)
	isNat(t, new(big.Int).Sqrt(bigOf(a)), got, e, "Root", a)
}

// P3.5: the chapter's example, all small numbers, and each way of writing 0.
func TestRootOfSmall(t *testing.T) {
	if got, e := nat.Root(nat.Of(99)); e != api.OK || !slices.Equal(got, api.Nat{9}) {
		t.Errorf("Root of 99 = %v, error %d", got, e)
	}
	for n := range uint64(3000) {
		hasRoot(t, nat.Of(n))
	}
	for _, z := range zeros() {
		hasRoot(t, z)
	}
}

// P3.5: squares, and what is next to them, of each size.
func TestRoot(t *testing.T) {
	for _, a := range someNumbers() {
		hasRoot(t, a)
		hasRoot(t, append(slices.Clone(a), 0, 0))
		square := new(big.Int).Mul(bigOf(a), bigOf(a))
		for d := int64(-2); d <= 2; d++ {
			if n := plus(square, d); n.Sign() >= 0 {
				hasRoot(t, natOf(n))
			}
		}
	}
	for n := range 700 {
		for d := int64(-1); d <= 1; d++ {
			hasRoot(t, natOf(plus(pow2(n), d)))
			side := plus(pow2(n/2+1), d)
			hasRoot(t, natOf(plus(new(big.Int).Mul(side, side), -1)))
		}
	}
	anyPairs(38, 20000, 12, func(a, b api.Nat) { hasRoot(t, a); hasRoot(t, b) })
}

// P3.5: numbers of up to 2048 limbs.
func TestRootOfLong(t *testing.T) {
	for _, side := range []api.Nat{allOnes(1024), append(make(api.Nat, 1023), half), anyNumber(1024), anyNumber(777)} {
		square := new(big.Int).Mul(bigOf(side), bigOf(side))
		for d := int64(-1); d <= 1; d++ {
			hasRoot(t, natOf(plus(square, d)))
		}
	}
	hasRoot(t, allOnes(2048))
	hasRoot(t, append(allOnes(2047), 1, 0))
	hasRoot(t, append(make(api.Nat, 2047), 1))
}
