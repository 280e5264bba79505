package weigh

import (
	"iter"

	"stepstone/api"
	"stepstone/bits"
	"stepstone/dyad"
	"stepstone/expo"
	"stepstone/fore"
)

// weighed reads no bit that the verdict does not take.
func weighed(s *bits.Source, c comparison) (api.Verdict, api.Errno) {
	u := all()
round:
	for level, p := range levels() {
		gain := c.gain(level, p)
		switch {
		case gain.Kind == api.IvUndef:
			return api.VdLeft, api.OK
		case gain.Kind == api.IvUnknown:
			continue round
		case dyad.Sign(gain.Lo) >= 0:
			return api.VdTaken, api.OK
		}
		chance := power(gain, p)
		if chance.Kind != api.IvSome {
			continue round
		}
		for {
			switch {
			case isUpTo(u.hi(), chance.Lo):
				return api.VdTaken, api.OK
			case !isUpTo(u.lo, chance.Hi):
				return api.VdLeft, api.OK
			case !u.isWiderThan(chance):
				continue round
			}
			bit, e := s.Bit()
			if e != api.OK {
				return api.VdNone, e
			}
			u = u.half(bit)
		}
	}
	return api.VdNone, api.ErrStuck
}

// levels tells each level with its bits.
func levels() iter.Seq2[int, int] {
	return func(yield func(level, p int) bool) {
		for level := 0; ; level++ {
			p, e := fore.Bits(level)
			if e != api.OK || !yield(level, p) {
				return
			}
		}
	}
}

// power is what is known of e to the power of a gain that has bounds.
func power(gain api.Ivl, p int) api.Ivl {
	if isUpTo(gain.Hi, dyad.Of(lowest)) {
		return api.Ivl{Kind: api.IvSome, Hi: sure(dyad.Scale(dyad.Of(1), lowest))}
	}
	return expo.Of(gain, p)
}

// part is what is known of u: it is of the numbers from 0 to 1 those that begin with the bits that were read.
type part struct{ lo, width api.Dyad }

func all() part { return part{width: dyad.Of(1)} }

func (u part) hi() api.Dyad { return sure(dyad.Add(u.lo, u.width)) }

func (u part) half(upper bool) part {
	u.width = sure(dyad.Scale(u.width, -1))
	if upper {
		u.lo = u.hi()
	}
	return u
}

// isWiderThan needs an interval that begins below 1: one that does not end below 2 is wider than all that u can be.
func (u part) isWiderThan(a api.Ivl) bool {
	// Bounds may be so far apart that layer 5 has no difference of them. What is left of the upper one without u's width it has, as both are near 1, or not so far below.
	return !isUpTo(dyad.Of(2), a.Hi) && !isUpTo(a.Lo, sure(dyad.Sub(a.Hi, u.width)))
}
