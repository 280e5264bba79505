package bind

import (
	"strconv"

	"stepstone/api"
	"stepstone/frac"
	"stepstone/zint"
)

// wholeDigits is how many digits a numeral has at most that is an integer.
const wholeDigits = 9

// scalar is an integer, or a number.
type scalar struct {
	isInt bool
	n     int64
	x     api.Frac
}

// number is that of an integer, too.
func (s scalar) number() api.Frac {
	if s.isInt {
		return frac.Of(s.n)
	}
	return s.x
}

// value is that of a variable that has this one.
func (s scalar) value() api.Value {
	if s.isInt {
		return api.Value{Type: api.TyInt, Ints: []int64{s.n}}
	}
	return api.Value{Type: api.TyReal, Nums: []api.Frac{s.x}}
}

// place is where in a program something is computed, and fails.
type place int

// need ends the computation, unless what it must be is true.
func (at place) need(is bool, e api.Errno) {
	if !is {
		panic(api.Fault{E: e, At: int(at)})
	}
}

func (at place) integer(n int64) scalar {
	at.need(fits(n), api.ErrRange)
	return scalar{isInt: true, n: n}
}

// exact is what layer 6 computed, unless it refused to.
func (at place) exact(x api.Frac, e api.Errno) scalar {
	at.need(e == api.OK, api.ErrRange)
	return scalar{x: x}
}

func (at place) numeral(s string) scalar {
	if n, err := strconv.ParseInt(s, 10, 64); err == nil && len(s) <= wholeDigits {
		return at.integer(n)
	}
	return at.exact(frac.Numeral(s))
}

// operation is what two scalars come to.
type operation func(at place, a, b scalar) scalar

// operations are by the expressions' Ops. No result of two integers is beyond 64 bits.
func operations() map[uint8]operation {
	return map[uint8]operation{
		api.ExAdd: place.sum,
		api.ExSub: place.difference,
		api.ExMul: place.product,
		api.ExDiv: place.quotient,
	}
}

func (at place) sum(a, b scalar) scalar {
	if a.isInt && b.isInt {
		return at.integer(a.n + b.n)
	}
	return at.exact(frac.Add(a.number(), b.number()))
}

func (at place) difference(a, b scalar) scalar {
	if a.isInt && b.isInt {
		return at.integer(a.n - b.n)
	}
	return at.exact(frac.Sub(a.number(), b.number()))
}

func (at place) product(a, b scalar) scalar {
	if a.isInt && b.isInt {
		return at.integer(a.n * b.n)
	}
	return at.exactProduct(a, b)
}

func (at place) exactProduct(a, b scalar) scalar {
	return at.exact(frac.Mul(a.number(), b.number()))
}

func (at place) quotient(a, b scalar) scalar {
	return at.exact(frac.Div(a.number(), b.number()))
}

// order is -1, 0 or 1. Numbers whose products crosswise are too long for layer 6 are held against each other by what they are rounded down, and by what is left of them, turned over.
func order(a, b api.Frac) int {
	if c, e := frac.Cmp(a, b); e == api.OK {
		return c
	}
	n, d, m, c := a.N, api.Int{M: a.D}, b.N, api.Int{M: b.D}
	for {
		p, r, _ := zint.Floor(n, d)
		q, s, _ := zint.Floor(m, c)
		switch {
		case zint.Cmp(p, q) != 0:
			return zint.Cmp(p, q)
		case zint.Sign(r) == 0 || zint.Sign(s) == 0:
			return zint.Cmp(r, s)
		}
		n, d, m, c = c, s, d, r
	}
}
