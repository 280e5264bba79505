package expo_test

import (
	"math/big"
	"testing"

	"stepstone/api"
	"stepstone/expo"
)

// atanhOf is the inverse hyperbolic tangent of 1/k, in units of 2^-n, less a few for each of its terms.
func atanhOf(k int64, n int) *big.Int {
	sum, square := new(big.Int), big.NewInt(k*k)
	power := new(big.Int).Div(pow2(n), big.NewInt(k))
	for i := int64(1); power.Sign() > 0; i += 2 {
		sum.Add(sum, new(big.Int).Div(power, big.NewInt(i)))
		power.Div(power, square)
	}
	return sum
}

// sparse is how many bits more than are asked for the model computes with: no sum of roundings comes to as much.
const sparse = 40

// logTwo is the logarithm of 2, in units of 2^-n, rounded down.
func logTwo(n int) *big.Int {
	sum := new(big.Int)
	for _, term := range []struct{ times, k int64 }{{18, 26}, {-2, 4801}, {8, 8749}} {
		x := atanhOf(term.k, n+sparse)
		sum.Add(sum, x.Mul(x, big.NewInt(term.times)))
	}
	return sum.Rsh(sum, sparse)
}

// logs keeps those that were computed, by their units.
type logs map[int]*big.Int

func (l logs) two(n int) *big.Int {
	if l[n] == nil {
		l[n] = logTwo(n)
	}
	return l[n]
}

// model computes powers of e by the library's integers: it splits off a power of 2, and sums what is left, from 0 to the logarithm of 2, as it is.
type model struct{ logs logs }

func newModel() model { return model{logs{}} }

// power returns lo, hi and e: e to the power of x is from lo times 2^e to hi times 2^e. These are apart by about 2^-n of it.
func (m model) power(x *big.Rat, n int) (lo, hi *big.Int, e int) {
	n += sparse
	units := new(big.Int).Mul(x.Num(), pow2(n))
	units.Div(units, x.Denom())
	twos, rest := new(big.Int).DivMod(units, m.logs.two(n), new(big.Int))
	sum, term := pow2(n), pow2(n)
	for i := int64(1); term.Sign() > 0; i++ {
		term.Mul(term, rest)
		term.Rsh(term, uint(n))
		term.Div(term, big.NewInt(i))
		sum.Add(sum, term)
	}
	// What the logarithm of 2 lacks counts up to 2^18 times in the rest, and some 2^19 in the sum; each term lacks less than 4.
	off := pow2(22)
	return new(big.Int).Sub(sum, off), new(big.Int).Add(sum, off), int(twos.Int64()) - n
}

// rounded is e to the power of x to p bits, down and up: cut where both bounds are cut to the same.
func (m model) rounded(x *big.Rat, p int) (down, up api.Dyad) {
	if x.Sign() == 0 {
		return small(1, 0), small(1, 0)
	}
	for n := p + sparse; n < 1<<16; n *= 2 {
		lo, hi, e := m.power(x, n)
		cut := max(0, lo.BitLen()-p)
		a, b := new(big.Int).Rsh(lo, uint(cut)), new(big.Int).Rsh(hi, uint(cut))
		if a.Cmp(b) == 0 && lo.BitLen() >= p {
			return odd(a, e+cut), odd(plus(a, 1), e+cut)
		}
	}
	panic("the model has no more bits")
}

// exps checks both directions for a number that is not 0, or is, in whatever way it is written.
func (m model) exps(t *testing.T, a api.Dyad, p int) {
	t.Helper()
	down, up := m.rounded(ratOf(a), p)
	got, e := expo.Exp(a, p, false)
	is(t, down, got, e, "Exp", a, p)
	got, e = expo.Exp(a, p, true)
	is(t, up, got, e, "Exp up", a, p)
}
