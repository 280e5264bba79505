package bits

import (
	"iter"
	"math"

	"stepstone/api"
	"stepstone/frac"
	"stepstone/nat"
)

const (
	byteBits = 8
	limbBits = 64
	// endless is more bits than a script has.
	endless = math.MaxInt
)

// next reads a bit; where there is none, the call that asked for it is ended.
func (s *Source) next() bool {
	at, below := s.read/byteBits, byteBits-1-s.read%byteBits
	if at == len(s.script) {
		s.dry = true
		panic(api.ErrDry)
	}
	s.read++
	return s.script[at]>>below&1 == 1
}

// bits tells n bits, each of which is read only once it is asked for.
func (s *Source) bits(n int) iter.Seq[bool] {
	return func(yield func(bool) bool) {
		for range n {
			if !yield(s.next()) {
				return
			}
		}
	}
}

func (s *Source) number(n int) api.Nat {
	limbs := make(api.Nat, (n+limbBits-1)/limbBits)
	for b := range s.bits(n) {
		n--
		if b {
			limbs[n/limbBits] |= 1 << (n % limbBits)
		}
	}
	return must(nat.Norm(limbs))
}

func (s *Source) below(m api.Nat) api.Nat {
	n := nat.Bits(must(nat.Sub(m, nat.Of(1))))
	for {
		if k := s.number(n); nat.Cmp(k, m) < 0 {
			return k
		}
	}
}

// coin compares the bits, as the digits of a number from 0 to 1, with those of p: the first digit that differs decides.
func (s *Source) coin(p api.Frac) bool {
	if frac.Sign(p) <= 0 || must(frac.Cmp(p, frac.Of(1))) >= 0 {
		return frac.Sign(p) > 0
	}
	rest, digit := p.N.M, false
	for b := range s.bits(endless) {
		if rest, digit = doubled(rest, p.D); digit != b {
			break
		}
	}
	return digit
}

// doubled returns what is left of twice a, and whether d was taken from it. What a lacks of d is as long as d at most, where twice a may be too long.
func doubled(a, d api.Nat) (rest api.Nat, taken bool) {
	lack := must(nat.Sub(d, a))
	if nat.Cmp(a, lack) < 0 {
		return must(nat.Add(a, a)), false
	}
	return must(nat.Sub(a, lack)), true
}

func (s *Source) decay(g api.Frac) bool {
	all := true
throwing:
	for part := range parts(g) {
		for n := int64(1); ; n++ {
			if s.coin(must(frac.Div(part, frac.Of(n)))) {
				continue
			}
			if n%2 == 1 {
				continue throwing
			}
			all = false
			break throwing
		}
	}
	return all
}

// parts tells what g is the sum of: 1 for each of the whole numbers up to it, and what is left; nothing for one below 0.
func parts(g api.Frac) iter.Seq[api.Frac] {
	return func(yield func(api.Frac) bool) {
		if frac.Sign(g) < 0 {
			return
		}
		whole, one := must(frac.Floor(g)), frac.Of(1)
		rest := must(frac.Sub(g, api.Frac{N: whole, D: one.D}))
		for n := whole.M; len(n) > 0; n = must(nat.Sub(n, one.D)) {
			if !yield(one) {
				return
			}
		}
		yield(rest)
	}
}

// must ends the call unless what it needs is there: a number that is too long for the layers below is one that can't be thrown by.
func must[T any](x T, e api.Errno) T {
	if e != api.OK {
		panic(api.ErrArg)
	}
	return x
}
