package zint

import (
	"math/bits"

	"stepstone/api"
	"stepstone/nat"
)

const (
	limbBits = 64
	maxBits  = limbBits * api.MaxLimbs
)

// magnitude computes with a natural number by the calls of nat. The first error stays: all that is computed from it has that error, and no number. So it is enough to ask for it at the end.
type magnitude struct {
	m api.Nat
	e api.Errno
}

func told(m api.Nat, e api.Errno) magnitude { return magnitude{m, e} }

func failed(e api.Errno) magnitude { return magnitude{e: e} }

func one() magnitude { return magnitude{m: nat.Of(1)} }

func (a magnitude) bits() int { return nat.Bits(a.m) }

func (a magnitude) none() bool { return a.bits() == 0 }

func (a magnitude) long() bool { return a.bits() > maxBits }

func (a magnitude) less(b magnitude) bool { return nat.Cmp(a.m, b.m) < 0 }

func (a magnitude) lowLimb() uint64 {
	if len(a.m) == 0 {
		return 0
	}
	return a.m[0]
}

func (a magnitude) plus(b magnitude) magnitude { return a.with(nat.Add, b) }

// minus needs a b that is not above a.
func (a magnitude) minus(b magnitude) magnitude { return a.with(nat.Sub, b) }

func (a magnitude) times(b magnitude) magnitude { return a.with(nat.Mul, b) }

func (a magnitude) shiftedUp(n int) magnitude { return a.by(nat.Shl, n) }

func (a magnitude) shiftedDown(n int) magnitude { return a.by(nat.Shr, n) }

func (a magnitude) with(do func(a, b api.Nat) (api.Nat, api.Errno), b magnitude) magnitude {
	switch {
	case a.e != api.OK:
		return a
	case b.e != api.OK:
		return b
	}
	return told(do(a.m, b.m))
}

func (a magnitude) by(do func(a api.Nat, n int) (api.Nat, api.Errno), n int) magnitude {
	if a.e != api.OK {
		return a
	}
	return told(do(a.m, n))
}

func (a magnitude) over(b magnitude) (q, r magnitude) {
	m, n, e := nat.Div(a.m, b.m)
	return magnitude{m, e}, magnitude{n, e}
}

// toThe needs an n that is not below 0. It begins with n's highest bit: so nothing on the way is longer than the result.
func (a magnitude) toThe(n int) magnitude {
	out := one()
	for i := bits.Len(uint(n)) - 1; i >= 0; i-- {
		out = out.times(out)
		if n>>i&1 == 1 {
			out = out.times(a)
		}
	}
	return out
}
