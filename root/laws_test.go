package root_test

import (
	"math/big"
	"math/rand/v2"
	"testing"

	"stepstone/api"
	"stepstone/dyad"
	"stepstone/frac"
	"stepstone/ivl"
	"stepstone/root"
	"stepstone/zint"
)

// squares checks, by layer 5 alone, what follows for both roots of a number: bits are those of its root, or 0 if that has no end.
func squares(t *testing.T, a api.Dyad, p, bits int) {
	t.Helper()
	down, e := root.Root(a, p, false)
	up, f := root.Root(a, p, true)
	if e != api.OK || f != api.OK {
		t.Fatalf("Root of %s to %d bits: errors %d, %d", shown(a), p, e, f)
	}
	low, _ := dyad.Mul(down, down)
	high, _ := dyad.Mul(up, up)
	if c, e := dyad.Cmp(low, a); c > 0 || e != api.OK {
		t.Errorf("the square of %s, Root of %s to %d bits, is above it", shown(down), shown(a), p)
	}
	if c, e := dyad.Cmp(high, a); c < 0 || e != api.OK {
		t.Errorf("the square of %s, Root of %s to %d bits, up, is below it", shown(up), shown(a), p)
	}
	if c, e := dyad.Cmp(down, up); (c == 0) != (0 < bits && bits <= p) || e != api.OK {
		t.Errorf("Root of %s to %d bits, %s: its root has %d bits", shown(a), p, shown(down, up), bits)
	}
}

// P8.3: the squares of both results, and when these are equal, for many numbers: those whose root has an end, and those whose root has none.
func TestSquares(t *testing.T) {
	g := rand.New(rand.NewPCG(8, 3))
	for range 5000 {
		r := bigOf(anyDyad(g, 1+g.IntN(4)).M)
		e := g.IntN(500) - 250
		bits := valueOf(written(r, 0)).m.BitLen()
		for _, p := range []int{1, max(1, bits-1), bits, bits + 1, 1 + g.IntN(bits+2)} {
			squares(t, written(square(r), 2*e), p, bits)
			// Between two squares side by side there is none, nor is there with an odd exponent.
			squares(t, written(plus(square(r), 1), 2*e), p, 0)
			squares(t, written(square(r), 2*e+1), p, 0)
		}
	}
	for range 100 {
		squares(t, anySquare(g, api.MaxFine), api.MaxFine, api.MaxFine)
		squares(t, anySquare(g, api.MaxFine+1), api.MaxFine, api.MaxFine+1)
	}
}

// anySquare is that of an odd number of just so many bits.
func anySquare(g *rand.Rand, bits int) api.Dyad {
	r := new(big.Int).Or(pow2(bits-1), big.NewInt(1))
	for range 100 {
		r.SetBit(r, g.IntN(bits), 1)
	}
	return written(square(r), 2*g.IntN(100))
}

// P8.3: both results of 0 are equal, as its root has no bits.
func TestSquaresOfZero(t *testing.T) {
	for _, p := range []int{1, 2, api.MaxFine} {
		down, e := root.Root(api.Dyad{}, p, false)
		up, f := root.Root(api.Dyad{}, p, true)
		if e != api.OK || f != api.OK || !sameNumber(down, up) {
			t.Errorf("Root of 0 to %d bits = %s, errors %d, %d", p, shown(down, up), e, f)
		}
	}
}

func fracOf(x *big.Rat) api.Frac {
	a, e := frac.Make(api.Int{Neg: x.Sign() < 0, M: natOf(new(big.Int).Abs(x.Num()))}, api.Int{M: natOf(x.Denom())})
	if e != api.OK {
		panic("no such rational number")
	}
	return a
}

func contains(t *testing.T, a api.Ivl, p int, y *big.Rat) {
	t.Helper()
	if out := root.Of(a, p); !ivl.Has(out, fracOf(y)) {
		t.Errorf("Of of %s to %d bits = %s does not contain %s", shownIvl(a), p, shownIvl(out), y.RatString())
	}
}

// anyRatio is above 0, of parts of few or many bits.
func anyRatio(g *rand.Rand) *big.Rat {
	part := func() *big.Int { return plus(new(big.Int).Rsh(bigOf(anyDyad(g, 2).M), uint(g.IntN(128))), 1) }
	return new(big.Rat).SetFrac(part(), part())
}

// P8.3: for x above 0 in an interval, Of contains the number whose square is x: with x inside, at an end, alone; and where 0, or less, is in the interval too.
func TestContains(t *testing.T) {
	g := rand.New(rand.NewPCG(8, 4))
	for range 3000 {
		y := anyRatio(g)
		x := fracOf(new(big.Rat).Mul(y, y))
		p := 1 + g.IntN(80)
		a := ivl.Near(x, 1+g.IntN(100))
		if a.Kind != api.IvSome {
			t.Fatal("Near of a ratio is not known")
		}
		contains(t, a, p, y)
		contains(t, some(api.Dyad{}, a.Hi), p, y)
		contains(t, some(small(-3, g.IntN(100)), a.Hi), p, y)
		contains(t, some(a.Lo, dyadSum(a.Hi, small(1, g.IntN(100)))), p, y)
		contains(t, unknown(), p, y)
	}
}

func dyadSum(a, b api.Dyad) api.Dyad {
	sum, _ := dyad.Add(a, b)
	return sum
}

// P8.3: the same where x is a bound, and its root a dyadic number, of more bits than p or of less.
func TestContainsBounds(t *testing.T) {
	g := rand.New(rand.NewPCG(8, 5))
	for range 3000 {
		r := int64(1 + g.IntN(1<<20))
		e := g.IntN(60) - 30
		n, _ := zint.Pow(zint.Of(r), 2)
		x, _ := dyad.Norm(api.Dyad{M: n, E: 2 * e})
		y := new(big.Rat).SetFrac(new(big.Int).Lsh(big.NewInt(r), uint(30+e)), pow2(30))
		p := 1 + g.IntN(25)
		contains(t, some(x, x), p, y)
		contains(t, some(x, dyadSum(x, small(1, g.IntN(90)-70))), p, y)
		contains(t, some(dyadSum(x, small(-1, -80)), x), p, y)
		contains(t, some(api.Dyad{}, x), p, y)
	}
}
