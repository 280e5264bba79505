package zint

import (
	"cmp"

	"stepstone/api"
	"stepstone/nat"
)

// mostFactors is the most that powers go to, but for those of 0, 1 and -1.
const mostFactors = 100000

// integer is a magnitude and its sign, which says nothing where the magnitude is 0.
type integer struct {
	neg bool
	magnitude
}

// open shares its memory with a: what is returned of it must have been computed, or be made anew.
func open(a api.Int) integer { return integer{a.Neg, magnitude{m: a.M}} }

// result needs a magnitude that nat has returned.
func (a integer) result() (api.Int, api.Errno) {
	if a.e != api.OK {
		return api.Int{}, a.e
	}
	return api.Int{Neg: a.sign() < 0, M: a.m}, api.OK
}

// anew is the same integer in memory of its own.
func (a integer) anew() integer { return integer{a.neg, told(nat.Norm(a.m))} }

func (a integer) turned() integer { return integer{!a.neg, a.magnitude} }

func (a integer) sign() int {
	switch {
	case a.none():
		return 0
	case a.neg:
		return -1
	default:
		return 1
	}
}

func (a integer) compare(b integer) int {
	switch x, y := a.sign(), b.sign(); {
	case x != y:
		return cmp.Compare(x, y)
	case x < 0:
		// Of two below 0, the one of the greater magnitude is less.
		a, b = b, a
		fallthrough
	default:
		return nat.Cmp(a.m, b.m)
	}
}

// sum adds one after the other: none of the sums on the way may be too long.
func sum(first integer, more ...integer) integer {
	out := first
	for _, next := range more {
		out = out.sumWith(next)
	}
	return out
}

func (a integer) sumWith(b integer) integer {
	switch {
	case a.neg == b.neg:
		return integer{a.neg, a.plus(b.magnitude)}
	case a.less(b.magnitude):
		// What is left has the sign of the greater magnitude.
		a, b = b, a
		fallthrough
	default:
		return integer{a.neg, a.minus(b.magnitude)}
	}
}

func (a integer) product(b integer) integer {
	return integer{a.neg != b.neg, a.times(b.magnitude)}
}

func (a integer) floor(b integer) (q, r integer) {
	switch over, rest := a.over(b.magnitude); {
	case a.neg != b.neg && !rest.none():
		// The quotient is below 0, where down is away from 0: its magnitude is one more, and the rest is how far that leads beyond a.
		over, rest = over.plus(one()), b.minus(rest)
		fallthrough
	default:
		return integer{a.neg != b.neg, over}, integer{b.neg, rest}
	}
}

func (a integer) half(b integer) integer {
	q, r := a.floor(b)
	// Twice the rest may be too long; but in this order no sum on the way is longer than b.
	twice := sum(r, b.turned(), r)
	if twice.sign() == -b.sign() {
		return q
	}
	return sum(q, integer{false, one()})
}

func (a integer) raised(n int) integer { return integer{a.neg, a.shiftedUp(n)} }

func (a integer) lowered(n int) integer {
	if a.sign() < 0 {
		// Down is away from 0 here, so the magnitude is rounded up: to one more than the one below it, rounded down.
		return integer{true, a.minus(one()).shiftedDown(n).plus(one())}
	}
	return integer{false, a.shiftedDown(n)}
}

func (a integer) power(n int) integer {
	switch {
	case a.long(), n > mostFactors && a.bits() > 1:
		return integer{false, failed(api.ErrLong)}
	case n < 0:
		return integer{false, failed(api.ErrArg)}
	case n%2 == 0:
		a.neg = false
		fallthrough
	default:
		return integer{a.neg, a.toThe(n)}
	}
}
