package loga_test

import (
	"math/big"
	"slices"
	"testing"

	"stepstone/api"
	"stepstone/loga"
)

// sparse is how many bits more than are asked for the model computes with: no sum of roundings comes to as much.
const sparse = 40

// nearBits are those from which on the model sums, and does not square.
const nearBits = 20

// logTwo is the logarithm of 2, in units of 2^-n, less 2 at most: the sum of 1/(i 2^i).
func logTwo(n int) *big.Int {
	n += sparse
	sum := new(big.Int)
	for i := 1; i <= n; i++ {
		sum.Add(sum, new(big.Int).Div(pow2(n-i), big.NewInt(int64(i))))
	}
	return sum.Rsh(sum, sparse)
}

// logs keeps those that were computed, by their units.
type logs map[int]*big.Int

func (l logs) two(n int) *big.Int {
	if l[n] == nil {
		l[n] = logTwo(n)
	}
	return l[n]
}

// model computes logarithms by the library's integers: the one to base 2, bit by bit, by squarings, times that of 2; near 1 the sum of all powers of the distance from 1.
type model struct{ logs logs }

func newModel() model { return model{logs{}} }

func floor(x *big.Rat) *big.Int { return new(big.Int).Div(x.Num(), x.Denom()) }

// scaled is x times 2^n.
func scaled(x *big.Rat, n int) *big.Rat {
	by := new(big.Rat).SetInt(pow2(max(n, -n)))
	if n < 0 {
		return by.Quo(x, by)
	}
	return by.Mul(x, by)
}

// baseTwo is the logarithm of x to base 2, in units of 2^-n, less 2 at most.
func baseTwo(x *big.Rat, n int) *big.Int {
	whole := x.Num().BitLen() - x.Denom().BitLen()
	if floor(scaled(x, -whole)).Sign() == 0 {
		whole--
	}
	w := n + 8
	y, bits := floor(scaled(x, w-whole)), new(big.Int)
	for i := range n {
		y.Mul(y, y)
		y.Rsh(y, uint(w))
		if y.BitLen() > w+1 {
			y.Rsh(y, 1)
			bits.SetBit(bits, n-1-i, 1)
		}
	}
	return bits.Add(bits, new(big.Int).Mul(big.NewInt(int64(whole)), pow2(n)))
}

// squared tells between which integers the logarithm of x is, in units of 2^-n.
func (m model) squared(x *big.Rat, n int) (lo, hi *big.Int) {
	var l []*big.Int
	base, two := baseTwo(x, n), m.logs.two(n)
	for _, a := range []*big.Int{base, plus(base, 2)} {
		for _, b := range []*big.Int{two, plus(two, 2)} {
			product := new(big.Int).Mul(a, b)
			l = append(l, product.Rsh(product, uint(n)))
		}
	}
	return slices.MinFunc(l, (*big.Int).Cmp), plus(slices.MaxFunc(l, (*big.Int).Cmp), 1)
}

// summed tells the same for an x next to 1.
func summed(x *big.Rat, n int) (lo, hi *big.Int) {
	d := floor(scaled(new(big.Rat).Sub(x, big.NewRat(1, 1)), n))
	sum, power := new(big.Int), plus(d, 0)
	off := int64(4)
	// A power of what is below 0 is rounded down to -1 for ever.
	for i := int64(1); power.CmpAbs(big.NewInt(1)) > 0; i++ {
		term := new(big.Int).Div(power, big.NewInt(i))
		if i%2 == 0 {
			term.Neg(term)
		}
		sum.Add(sum, term)
		power.Mul(power, d)
		power.Rsh(power, uint(n))
		off += 4
	}
	return plus(sum, -off), plus(sum, off)
}

// near is how many bits of x next to 1 say no more than that it is there; 0 for others, and for 1.
func near(x *big.Rat) int {
	d := new(big.Rat).Sub(x, big.NewRat(1, 1))
	if d.Sign() == 0 {
		return 0
	}
	return max(0, d.Denom().BitLen()-d.Num().BitLen())
}

// log tells between which integers the logarithm of x is, in units of 2^-n.
func (m model) log(x *big.Rat, n int) (lo, hi *big.Int) {
	if near(x) > nearBits {
		return summed(x, n)
	}
	return m.squared(x, n)
}

// rounded is the logarithm of x to p bits, down and up: cut where both bounds are cut to the same.
func (m model) rounded(x *big.Rat, p int) (down, up api.Dyad) {
	if x.Cmp(big.NewRat(1, 1)) == 0 {
		return api.Dyad{}, api.Dyad{}
	}
	for n := p + near(x) + sparse; n < 1<<16; n *= 2 {
		lo, hi := m.log(x, n)
		below := hi.Sign() < 0
		if below {
			lo, hi = hi.Neg(hi), lo.Neg(lo)
		}
		cut := lo.BitLen() - p
		if lo.Sign() <= 0 || cut < 0 {
			continue
		}
		a, b := new(big.Int).Rsh(lo, uint(cut)), new(big.Int).Rsh(hi, uint(cut))
		switch {
		case a.Cmp(b) != 0:
		case below:
			return odd(negative(plus(a, 1)), cut-n), odd(negative(a), cut-n)
		default:
			return odd(a, cut-n), odd(plus(a, 1), cut-n)
		}
	}
	panic("the model has no more bits")
}

// check checks both directions for a number above 0, in whatever way it is written.
func (m model) check(t *testing.T, a api.Dyad, p int) {
	t.Helper()
	down, up := m.rounded(ratOf(a), p)
	got, e := loga.Log(a, p, false)
	is(t, down, got, e, "Log", a, p)
	got, e = loga.Log(a, p, true)
	is(t, up, got, e, "Log up", a, p)
}
