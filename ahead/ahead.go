// Package ahead lets a call read ahead of a source, so that it can leave the source as it was.
package ahead

import (
	"stepstone/api"
	"stepstone/bits"
)

// mostBits is how many bits layer 23 reads in one call.
const mostBits = 100000

// Do is what do tells of a copy of a source; api.ErrNil, if that is none. The source then reads what the copy has read, but beside an error: a call that returns one has read nothing, unless it ran out of bits.
func Do[T any](s *bits.Source, do func(s *bits.Source) (T, api.Errno)) (T, api.Errno) {
	other := s.Copy()
	if other == nil {
		var none T
		return none, api.ErrNil
	}
	out, e := do(other)
	if e == api.OK || e == api.ErrDry {
		follow(s, other)
	}
	return out, e
}

// follow reads what was read of a copy that is ahead.
func follow(s, other *bits.Source) {
	for s.Read() < other.Read() {
		s.Number(min(other.Read()-s.Read(), mostBits))
	}
	if other.Dry() {
		s.Bit()
	}
}
