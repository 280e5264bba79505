package dyad

import (
	"stepstone/api"
	"stepstone/zint"
)

func isPrecision(p int) bool { return 1 <= p && p <= api.MaxPrec }

// directed tells how a number is rounded: up is down, seen from the other side of 0.
func directed(up bool) func(x number, down func(number) number) number {
	return func(x number, down func(number) number) number {
		if up {
			return down(x.turned()).turned()
		}
		return down(x)
	}
}

// cut is the number to p bits, down. Away from 0 the integer may come to 2^p, which is one bit, not p and one more.
func (x number) cut(p int) number {
	n := x.bits() - p
	if n <= 0 {
		return x
	}
	m, _ := zint.Shr(x.m, n)
	return number{m: m, e: x.e + n}
}

// over is the quotient to p bits, down. It needs a y that is not 0.
func (x number) over(y number, p int) number {
	if !x.none() && y.bits()+p > maxBits {
		return number{lost: true}
	}
	// With so much behind it the quotient is above 2^(p-1): numbers of p bits are integers there, so the greatest one that is not above it is not above it rounded down either.
	x.lower(x.e - max(y.bits()+p-x.bits(), 0))
	m, _, _ := zint.Floor(x.m, y.m)
	return number{m: m, e: x.e - y.e}.cut(p)
}
