package bits_test

import (
	"math/big"

	"stepstone/api"
)

// model reads bits as the chapter says, from a row of them.
type model struct {
	bits []bool
	at   int
	dry  bool
}

// fails is how a call of the model ends before its end.
type fails struct{ e api.Errno }

func modelOf(text string) *model {
	m := &model{}
	for i := range len(text) {
		for place := 7; place >= 0; place-- {
			m.bits = append(m.bits, text[i]&(1<<place) != 0)
		}
	}
	return m
}

func (m *model) bit() int {
	if m.dry || m.at == len(m.bits) {
		m.dry = true
		panic(fails{api.ErrDry})
	}
	m.at++
	if m.bits[m.at-1] {
		return 1
	}
	return 0
}

func (m *model) number(n int) *big.Int {
	out := new(big.Int)
	for i := n - 1; i >= 0; i-- {
		out.SetBit(out, i, uint(m.bit()))
	}
	return out
}

func (m *model) below(k *big.Int) *big.Int {
	n := new(big.Int).Sub(k, big.NewInt(1)).BitLen()
	x := m.number(n)
	for x.Cmp(k) >= 0 {
		x = m.number(n)
	}
	return x
}

func one() *big.Rat { return big.NewRat(1, 1) }

func (m *model) coin(p *big.Rat) bool {
	if p.Cmp(one()) >= 0 {
		return true
	}
	if p.Sign() <= 0 {
		return false
	}
	// x is a numerator over p's denominator.
	x := p.Num()
	for {
		x = new(big.Int).Add(x, x)
		digit := 0
		if x.Cmp(p.Denom()) >= 0 {
			digit = 1
			x.Sub(x, p.Denom())
		}
		b := m.bit()
		if b < digit {
			return true
		}
		if b > digit {
			return false
		}
	}
}

// byPart is g divided by n, if layer 6 can divide by it: its denominator has to have room for n.
func byPart(g *big.Rat, n int64) *big.Rat {
	if new(big.Int).Mul(g.Denom(), big.NewInt(n)).BitLen() > mostBits {
		panic(fails{api.ErrArg})
	}
	return new(big.Rat).Quo(g, big.NewRat(n, 1))
}

func (m *model) decay(g *big.Rat) bool {
	if g.Sign() < 0 {
		return true
	}
	if g.Cmp(one()) <= 0 {
		n := int64(1)
		for m.coin(byPart(g, n)) {
			n++
		}
		return n%2 == 1
	}
	for g.Cmp(one()) >= 0 {
		if !m.decay(one()) {
			return false
		}
		g = new(big.Rat).Sub(g, one())
	}
	return m.decay(g)
}

// calls runs one call of the model: on a dry one none reads anything, and one that ends by ErrArg has read nothing.
func calls[T any](m *model, valid bool, call func() T) (out T, e api.Errno) {
	if !valid {
		return out, api.ErrArg
	}
	if m.dry {
		return out, api.ErrDry
	}
	at := m.at
	defer func() {
		if r := recover(); r != nil {
			if e = r.(fails).e; e == api.ErrArg {
				m.at = at
			}
		}
	}()
	return call(), api.OK
}
