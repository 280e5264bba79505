package gauss_test

import (
	"math/big"

	"stepstone/api"
	"stepstone/bits"
)

// plain draws as the chapter says, by the calls of layer 23 and the library's numbers.
type plain struct{ s *bits.Source }

// fails is how a draw of it ends before its end.
type fails struct{ e api.Errno }

func check(e api.Errno) {
	if e != api.OK {
		panic(fails{e})
	}
}

func (p plain) below(t *big.Int) *big.Int {
	u, e := p.s.Below(natOf(t))
	check(e)
	return bigOf(u)
}

func (p plain) decay(g *big.Rat) bool {
	b, e := p.s.Decay(fracOf(g))
	check(e)
	return b
}

// fits is a number of layers 3 to 6, or the end of the draw for one that is too long.
func fits(n *big.Int) *big.Int {
	if n.BitLen() > mostBits {
		panic(fails{api.ErrLong})
	}
	return n
}

func times(a, b *big.Int) *big.Int { return fits(new(big.Int).Mul(a, b)) }

// The chapter of layer 6 names what is too long of each of these.

func product(a, b *big.Rat) *big.Rat {
	return ratio(times(a.Num(), b.Num()), times(a.Denom(), b.Denom()))
}

func quotient(a, b *big.Rat) *big.Rat {
	return ratio(times(a.Num(), b.Denom()), times(a.Denom(), b.Num()))
}

func difference(a, b *big.Rat) *big.Rat {
	n := fits(new(big.Int).Sub(times(a.Num(), b.Denom()), times(b.Num(), a.Denom())))
	return ratio(n, times(a.Denom(), b.Denom()))
}

func (p plain) slope(t *big.Int) *big.Int {
	for {
		u := p.below(t)
		if !p.decay(ratio(u, t)) {
			continue
		}
		v := int64(0)
		for p.decay(rat(1, 1)) {
			v++
		}
		b, e := p.s.Bit()
		check(e)
		y := fits(new(big.Int).Add(u, times(t, big.NewInt(v))))
		if !b {
			return y
		}
		if y.Sign() != 0 {
			return y.Neg(y)
		}
	}
}

// slopeOf is t for w, by its definition.
func slopeOf(w *big.Rat) *big.Int {
	t := new(big.Int).Sqrt(new(big.Int).Quo(w.Num(), w.Denom()))
	return t.Add(t, big.NewInt(1))
}

func whole(n *big.Int) *big.Rat { return new(big.Rat).SetInt(n) }

// exponent is g of the magnitude m.
func exponent(m *big.Int, w *big.Rat) *big.Rat {
	apart := difference(whole(m), quotient(w, whole(slopeOf(w))))
	return quotient(product(apart, apart), product(rat(2, 1), w))
}

func (p plain) bell(w *big.Rat) *big.Int {
	for {
		y := p.slope(slopeOf(w))
		if p.decay(exponent(new(big.Int).Abs(y), w)) {
			return y
		}
	}
}

// drawn is what a draw of the model comes to, how much it has read, and whether it is dry then; one that has failed has read nothing, but for one for which there are not enough bits.
func drawn(s *bits.Source, draw func(p plain) *big.Int) (y *big.Int, read int, dry bool, e api.Errno) {
	c := s.Copy()
	defer func() {
		if r := recover(); r != nil {
			e = r.(fails).e
			if e != api.ErrDry {
				c = s
			}
		}
		read, dry = c.Read(), c.Dry()
	}()
	return draw(plain{c}), 0, false, api.OK
}
