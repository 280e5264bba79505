package dyad

import (
	"cmp"
	"math/bits"

	"stepstone/api"
	"stepstone/nat"
	"stepstone/zint"
)

const (
	limbBits = 64
	maxBits  = limbBits * api.MaxLimbs
)

// number is a dyadic number on the way to a result: odd, or 0, as far as nothing else is said; its exponent may be further away than a valid one. It is lost if its integer had no room.
type number struct {
	m    api.Int
	e    int
	lost bool
}

func checked(l ...api.Dyad) api.Errno {
	for _, a := range l {
		if nat.Bits(a.M.M) > maxBits || !isExponent(a.E) {
			return api.ErrBig
		}
	}
	return api.OK
}

func isExponent(e int) bool { return -api.MaxExp <= e && e <= api.MaxExp }

// open needs a valid a, and may share its memory: what is returned must have been computed by result.
func open(a api.Dyad) number {
	n := twos(a.M.M)
	if n == 0 {
		return number{m: a.M, e: a.E}
	}
	m, _ := zint.Shr(a.M, n)
	return number{m: m, e: a.E + n}
}

// twos tells how often 2 divides a number; what it says of 0 does not matter.
func twos(m api.Nat) int {
	n := 0
	for _, limb := range m {
		if limb != 0 {
			return n + bits.TrailingZeros64(limb)
		}
		n += limbBits
	}
	return n
}

// result is the number, normal, in new memory; it need not be odd.
func (x number) result() (api.Dyad, api.Errno) {
	if x.none() && !x.lost {
		return api.Dyad{}, api.OK
	}
	n := twos(x.m.M)
	if x.lost || !isExponent(x.e+n) {
		return api.Dyad{}, api.ErrBig
	}
	m, _ := zint.Shr(x.m, n)
	return api.Dyad{M: m, E: x.e + n}, api.OK
}

func (x number) sign() int { return zint.Sign(x.m) }

func (x number) none() bool { return x.sign() == 0 }

func (x number) bits() int { return nat.Bits(x.m.M) }

func (x number) turned() number {
	x.m.Neg = !x.m.Neg
	return x
}

// lower writes the number with a lesser exponent: its integer is no longer odd then.
func (x *number) lower(e int) {
	m, err := zint.Shl(x.m, x.e-e)
	*x = number{m: m, e: e, lost: err != api.OK}
}

// level makes both exponents the lesser one of them.
func level(x, y *number) {
	lower := x.lower
	if x.e < y.e {
		lower = y.lower
	}
	lower(min(x.e, y.e))
}

func (x number) compare(y number) int {
	s := x.sign()
	if s != y.sign() || s == 0 {
		return cmp.Compare(s, y.sign())
	}
	if c := cmp.Compare(x.bits()+x.e, y.bits()+y.e); c != 0 {
		return s * c
	}
	// As both have their highest bit at one place, neither gets longer than the other one is.
	level(&x, &y)
	return zint.Cmp(x.m, y.m)
}

func (x number) plus(y number) number {
	switch {
	case x.none():
		return y
	case y.none():
		return x
	case x.e == y.e:
		return x.plusSameExponent(y)
	}
	level(&x, &y)
	m, e := zint.Add(x.m, y.m)
	return number{m: m, e: x.e, lost: x.lost || y.lost || e != api.OK}
}

// plusSameExponent halves the sum of both integers: it is even, and may have one bit more than there is room for. As they are odd, half of it is one's half, rounded down, and the other's, rounded up.
func (x number) plusSameExponent(y number) number {
	down, _ := zint.Shr(x.m, 1)
	up, _ := zint.Shr(y.turned().m, 1)
	m, _ := zint.Sub(down, up)
	return number{m: m, e: x.e + 1}
}

func (x number) times(y number) number {
	m, e := zint.Mul(x.m, y.m)
	return number{m: m, e: x.e + y.e, lost: e != api.OK}
}

func (x number) scaled(n int) number {
	// No exponent is so far away that more than this could bring it back; so nothing wraps round.
	const most = 4 * api.MaxExp
	x.e += max(-most, min(n, most))
	return x
}

// inUnits is how often 2^e goes into the number.
func (x number) inUnits(e int) (api.Int, api.Errno) {
	if x.e < e {
		return zint.Shr(x.m, e-x.e)
	}
	m, err := zint.Shl(x.m, x.e-e)
	if err != api.OK {
		return api.Int{}, api.ErrBig
	}
	return m, api.OK
}
