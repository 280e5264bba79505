package ivl

import (
	"stepstone/api"
	"stepstone/dyad"
)

func some(lo, hi api.Dyad) api.Ivl { return api.Ivl{Kind: api.IvSome, Lo: lo, Hi: hi} }

func isSome(a api.Ivl) bool { return a.Kind == api.IvSome && Check(a) }

func isUnknown(a api.Ivl) bool { return a.Kind == api.IvUnknown && Check(a) }

func isExponent(e int) bool { return -api.MaxExp <= e && e <= api.MaxExp }

// isNormal tells whether a number is valid, and written as layer 5 returns it. It looks no further than it must: arguments are checked in each call.
func isNormal(a api.Dyad) bool {
	n := len(a.M.M)
	if n == 0 {
		return isZero(a)
	}
	return n <= api.MaxLimbs && a.M.M[n-1] != 0 && a.M.M[0]%2 == 1 && isExponent(a.E)
}

// isZero tells whether a number is 0, and normal.
func isZero(a api.Dyad) bool { return len(a.M.M) == 0 && !a.M.Neg && a.E == 0 }

// hasZero needs a valid interval with bounds.
func hasZero(a api.Ivl) bool { return dyad.Sign(a.Lo) <= 0 && dyad.Sign(a.Hi) >= 0 }

// kindOf is what the arguments alone say of a result; IvSome, if it is to be computed.
func kindOf(l ...api.Ivl) uint8 {
	kind := api.IvSome
row:
	for _, a := range l {
		switch {
		case !Check(a):
			// This holds whatever the others are, so none of them matters any more.
			kind = api.IvUnknown
			break row
		case a.Kind == api.IvUndef, kind == api.IvSome:
			kind = a.Kind
		}
	}
	return kind
}

// told is what is known of a call's result: what the call does with the bounds, if all arguments have some.
func told(do func(r *reckoning) api.Ivl, l ...api.Ivl) api.Ivl {
	if kind := kindOf(l...); kind != api.IvSome {
		return api.Ivl{Kind: kind}
	}
	out, _ := computed(do)
	return out
}

// toldTo is the same for a call to p bits: arguments without bounds count before a p that is not valid.
func toldTo(p int, do func(r *reckoning) api.Ivl, l ...api.Ivl) api.Ivl {
	return told(func(r *reckoning) api.Ivl {
		if p < 1 || p > api.MaxPrec {
			return api.Ivl{}
		}
		return do(r)
	}, l...)
}
