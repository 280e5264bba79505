package root_test

import (
	"math"
	"math/big"
	"math/rand/v2"
	"slices"
	"testing"

	"stepstone/api"
	"stepstone/root"
)

// P8.1: the chapter's examples, and others by hand.
func TestRootByHand(t *testing.T) {
	for _, c := range []struct {
		a        string
		p        int
		down, up string
	}{
		{"2", 4, "11p-3", "3p-1"}, {"9p-2", 1, "1", "1p1"}, {"9p-2", 2, "3p-1", "3p-1"}, {"9p-2", 3, "3p-1", "3p-1"},
		{"1", 1, "1", "1"}, {"1", api.MaxFine, "1", "1"}, {"4", 1, "2", "2"}, {"1p-1", 1, "1p-1", "1"}, {"1p-2", 1, "1p-1", "1p-1"}, {"2", 1, "1", "2"}, {"3", 1, "1", "2"}, {"5", 1, "2", "4"},
		{"3", 2, "3p-1", "2"}, {"2", 2, "1", "3p-1"}, {"3", 3, "3p-1", "7p-2"}, {"99", 4, "9", "5p1"}, {"99", 3, "4p1", "5p1"}, {"100", 3, "5p1", "5p1"}, {"100", 2, "8", "12"},
		{"10", 5, "25p-3", "13p-2"}, {"81p-8", 4, "9p-4", "9p-4"}, {"81p-7", 4, "3p-2", "13p-4"}, {"15", 5, "15p-2", "31p-3"}, {"15", 6, "61p-4", "31p-3"}, {"17", 3, "4", "5"},
		{"1p-9", 3, "5p-7", "3p-6"}, {"1p1001", 3, "5p498", "3p499"}, {"1p-1001", 3, "5p-503", "3p-502"},
	} {
		got, e := root.Root(num(c.a), c.p, false)
		is(t, num(c.down), got, e, "Root", num(c.a), small(int64(c.p), 0))
		got, e = root.Root(num(c.a), c.p, true)
		is(t, num(c.up), got, e, "Root up", num(c.a), small(int64(c.p), 0))
	}
}

// P8.1: 0 in any way of writing it is its own root, to any bits.
func TestRootZero(t *testing.T) {
	for _, a := range zeros() {
		for _, p := range []int{1, 2, 64, api.MaxFine} {
			for _, up := range directions() {
				got, e := root.Root(a, p, up)
				is(t, api.Dyad{}, got, e, "Root", a)
			}
		}
	}
}

// P8.1: numbers of many sizes, to few and many bits.
func TestRoot(t *testing.T) {
	for _, a := range someDyads() {
		for _, p := range []int{1, 2, 3, 4, 31, 32, 33, 53, 63, 64, 65, 128, 500, 1001} {
			roots(t, a, p)
		}
	}
	g := rand.New(rand.NewPCG(8, 1))
	for range 10000 {
		roots(t, anyDyad(g, 1+g.IntN(6)), 1+g.IntN(200))
	}
	for range 200 {
		roots(t, anyDyad(g, 1+g.IntN(150)), []int{api.MaxFine, api.MaxFine - 1, 1 + g.IntN(api.MaxFine)}[g.IntN(3)])
	}
}

// P8.1: all integers up to a bound, and all halves and quarters and so on of them, to all bits that make a difference.
func TestRootShort(t *testing.T) {
	for m := range int64(300) {
		for e := -5; e <= 4; e++ {
			for p := 1; p <= 10; p++ {
				roots(t, small(m+1, e), p)
			}
		}
	}
}

// fewRoots are numbers of various lengths whose squares are asked for: odd ones, all ones, with one bit alone at each end.
func fewRoots() []*big.Int {
	l := []*big.Int{big.NewInt(1), big.NewInt(3), big.NewInt(5), big.NewInt(7), big.NewInt(181), big.NewInt(12345677)}
	for _, n := range []int{31, 32, 33, 53, 63, 64, 65, 127, 128, 129, 640, 2000} {
		l = append(l, allOnes(n), plus(pow2(n-1), 1), plus(allOnes(n), -2), new(big.Int).Div(pow2(n), big.NewInt(3)))
	}
	for i, n := range l {
		l[i] = new(big.Int).SetBit(n, 0, 1)
	}
	return l
}

// P8.1: squares whose root has just p bits, one more, one less; and numbers just below and just above them, near and far behind.
func TestRootSquares(t *testing.T) {
	for i, r := range fewRoots() {
		bits := r.BitLen()
		for _, e := range []int{0, -2, 2, 64, -130, 2 * (i - 9)} {
			a := written(square(r), e)
			for _, p := range []int{1, bits - 1, bits, bits + 1, bits + 64} {
				if p >= 1 {
					roots(t, a, p)
				}
			}
			got, err := root.Root(a, bits, true)
			is(t, odd(r, e/2), got, err, "Root of a square", a)
		}
		for _, n := range []int{0, 1, 2, 63, 64, 65, 2*bits + 1, 2*bits + 130} {
			x := new(big.Int).Lsh(square(r), uint(n))
			for _, d := range []int64{-1, 1} {
				a := written(plus(x, d), -n)
				if a.M.Neg || len(a.M.M) == 0 {
					continue
				}
				for _, p := range []int{1, max(1, bits-1), bits, bits + 1, min(bits+n+1, api.MaxFine)} {
					roots(t, a, p)
				}
			}
		}
	}
}

// P8.1: the square of a number of p bits, and a very little more or less: the root is that number on one side, and the next one of p bits on the other.
func TestRootNextToSquares(t *testing.T) {
	for _, bits := range []int{1, 2, 3, 64, 65, 300, api.MaxFine} {
		low, high := pow2(bits-1), allOnes(bits)
		middle := new(big.Int).SetBit(new(big.Int).SetBit(low, 0, 1), bits/2, 1)
		for _, r := range []*big.Int{middle, high} {
			for _, n := range []int{1, 70, 2 * bits, 30000} {
				x := new(big.Int).Lsh(square(r), uint(n))
				a, b := written(plus(x, -1), -n), written(plus(x, 1), -n)
				got, e := root.Root(a, bits, true)
				is(t, odd(r, 0), got, e, "Root up, below a square", a)
				got, e = root.Root(b, bits, false)
				is(t, odd(r, 0), got, e, "Root down, above a square", b)
				got, e = root.Root(b, bits, true)
				is(t, odd(plus(r, 1), 0), got, e, "Root up, above a square", b)
				if got, e = root.Root(a, bits, false); r.Cmp(low) > 0 {
					is(t, odd(plus(r, -1), 0), got, e, "Root down, below a square", a)
				}
			}
		}
	}
}

// P8.1: roots of which all p bits are 1: rounded up they are a power of two, unless that is all of the root.
func TestRootAllOnes(t *testing.T) {
	for _, p := range []int{1, 2, 3, 31, 32, 33, 63, 64, 65, 127, 128, 129, 1000, api.MaxFine - 1, api.MaxFine} {
		for _, e := range []int{0, -1, 7, -2 * p, far / 2} {
			below := written(plus(pow2(2*p+2), -1), 2*e-2*p-2)
			got, err := root.Root(below, p, false)
			is(t, odd(allOnes(p), e-p), got, err, "Root", below)
			got, err = root.Root(below, p, true)
			is(t, small(1, e), got, err, "Root up", below)
			full := written(square(allOnes(p)), 2*e)
			got, err = root.Root(full, p, true)
			is(t, odd(allOnes(p), e), got, err, "Root up", full)
			more := written(plus(square(allOnes(p)), 1), 2*e)
			got, err = root.Root(more, p, true)
			is(t, small(1, e+p), got, err, "Root up", more)
		}
	}
}

// P8.1: numbers of 2048 limbs, what is at their end included; exponents at the bounds, even and odd.
func TestRootLong(t *testing.T) {
	odd := plus(pow2(maxBits-1), 1)
	for i, m := range []*big.Int{allOnes(maxBits), pow2(maxBits - 1), odd, plus(pow2(maxBits-2), 1), plus(pow2(maxBits-1), -1), square(allOnes(maxBits / 2)), plus(square(allOnes(maxBits/2)), 1), plus(square(allOnes(maxBits/2)), -1), square(allOnes(api.MaxFine)), new(big.Int).Lsh(square(allOnes(77)), maxBits-154), plus(new(big.Int).Lsh(square(allOnes(77)), maxBits-154), 1)} {
		for _, e := range []int{0, -1, -maxBits, far - maxBits, far - maxBits + 1, -far, 1 - far} {
			for _, p := range []int{1, []int{2, 63, 64, 65, 76}[i%5], 77, api.MaxFine} {
				roots(t, written(m, e), p)
			}
			roots(t, padded(written(m, e), 2), 78)
		}
	}
}

// P8.1: exponents at the bounds: no root is out of them.
func TestRootFar(t *testing.T) {
	for _, m := range []int64{1, 3, 5, 9, 15, 45, 63, 65, 1<<40 + 1} {
		for _, e := range []int{far, far - 1, far - 2, 1 - far, 2 - far, -far} {
			for _, p := range []int{1, 2, 3, 4, 64, api.MaxFine} {
				roots(t, small(m, e), p)
			}
		}
	}
	for _, c := range []struct{ e, down, up int }{{far, far / 2, far / 2}, {-far, -far / 2, -far / 2}, {far - 1, far/2 - 1, far / 2}, {1 - far, -far / 2, 1 - far/2}} {
		got, e := root.Root(small(1, c.e), 1, false)
		is(t, small(1, c.down), got, e, "Root", small(1, c.e))
		got, e = root.Root(small(1, c.e), 1, true)
		is(t, small(1, c.up), got, e, "Root up", small(1, c.e))
	}
}

// P8.1, R7: a number has one root, however it is written.
func TestRootNotNormal(t *testing.T) {
	for _, x := range []*big.Int{big.NewInt(1), big.NewInt(2), big.NewInt(3), big.NewInt(9), allOnes(64), square(allOnes(65))} {
		for _, e := range []int{0, 1, -1, -70, 71} {
			for _, n := range []int{1, 2, 63, 64, 65, 129, maxBits - x.BitLen()} {
				a := written(new(big.Int).Lsh(x, uint(n)), e-n)
				for _, p := range []int{1, 2, 64, 65, 100} {
					roots(t, a, p)
					roots(t, padded(a, 1+n%7), p)
				}
			}
		}
	}
	roots(t, padded(small(2, 0), 20000), 70)
}

// P8.1: a number may be valid, but not when it is normal. Its root is not too far; whether layer 5's error counts here is not said.
func TestRootTooFar(t *testing.T) {
	for _, a := range tooFar() {
		for _, p := range []int{1, 64} {
			if got, e := root.Root(a, p, false); e == api.ErrBig {
				fails(t, api.ErrBig, got, e, "Root", a)
				got, e = root.Root(a, p, true)
				fails(t, api.ErrBig, got, e, "Root up", a)
			} else {
				roots(t, a, p)
			}
		}
	}
}

func wrongPrecisions() []int {
	return []int{0, -1, -2, -64, api.MaxFine + 1, api.MaxFine + 2, 5000, api.MaxPrec, api.MaxPrec + 1, maxBits, math.MaxInt, math.MaxInt - 1, math.MinInt, math.MinInt + 1}
}

// P8.1: p that is none, for 0, for numbers whose root is exact, for others; and the last one that is.
func TestRootPrecision(t *testing.T) {
	for _, a := range []api.Dyad{{}, small(0, 5), small(1, 0), small(4, 0), small(2, 0), small(45, 3), small(1, far), small(3, -far), written(allOnes(maxBits), 0), padded(small(9, 0), 9)} {
		for _, up := range directions() {
			for _, p := range wrongPrecisions() {
				got, e := root.Root(a, p, up)
				fails(t, api.ErrArg, got, e, "Root", a)
			}
			for _, p := range []int{1, api.MaxFine - 1, api.MaxFine} {
				if _, e := root.Root(a, p, up); e != api.OK {
					t.Errorf("Root of %s to %d bits: error %d", shown(a), p, e)
				}
			}
		}
	}
}

// P8.1: numbers below 0 have none, whatever p is.
func TestRootBelowZero(t *testing.T) {
	for _, a := range []api.Dyad{small(-1, 0), small(-4, 0), small(-9, -2), small(-2, 0), small(-1, -far), small(-1, far), small(-3, 1-far), written(negative(allOnes(maxBits)), 0), written(negative(allOnes(maxBits)), -far), padded(small(-5, 1), 3), written(negative(pow2(64)), 0)} {
		for _, up := range directions() {
			for _, p := range append(wrongPrecisions(), 1, 2, 64, api.MaxFine) {
				got, e := root.Root(a, p, up)
				fails(t, api.ErrArg, got, e, "Root", a)
			}
		}
	}
}

// P8.1, R2: a number that is not valid is that first: whether p is right or not, and whether it is below 0 or not.
func TestRootNotValid(t *testing.T) {
	for _, a := range notValid() {
		for _, up := range directions() {
			for _, p := range slices.Concat(wrongPrecisions(), []int{1, 64, api.MaxFine}) {
				got, e := root.Root(a, p, up)
				fails(t, api.ErrBig, got, e, "Root", a)
			}
		}
	}
}
