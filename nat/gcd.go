package nat

import (
	"math/bits"
	"slices"

	"stepstone/api"
)

// commonDivisor needs numbers that are trimmed. The result is new memory.
func commonDivisor(a, b api.Nat) api.Nat {
	if compare(a, b) < 0 {
		a, b = b, a
	}
	a, b = slices.Clone(a), slices.Clone(b)
	for len(b) > 1 {
		a, b = nextRests(a, b)
	}
	if len(b) == 0 {
		return a
	}
	return Of(limbDivisor(b[0], divideByLimb(a, b[0])))
}

func limbDivisor(a, b uint64) uint64 {
	for b > 0 {
		a, b = b, a%b
	}
	return a
}

// nextRests goes on in the row of remainders that begins with a and b: by many steps at once, if the top limbs alone tell them, else by one. It uses the memory of both. The second one has at least two limbs, and is not above the first.
func nextRests(a, b api.Nat) (api.Nat, api.Nat) {
	s := topSteps(topLimbs(a, b))
	if s.lastOfB == 0 {
		_, r := divide(a, b)
		return b, r
	}
	// Neither result is above b, so what a has above b's limbs comes to nothing.
	a = a[:len(b)]
	if s.odd {
		a, b, s = b, a, s.swapped()
	}
	last, next := mix{more: s.lastOfA, less: s.lastOfB}, mix{more: s.nextOfB, less: s.nextOfA}
	i := 0
	for x, y := range pairs(a, b) {
		a[i], b[i] = last.limb(x, y), next.limb(y, x)
		i++
	}
	return trim(a), trim(b)
}

// topLimbs returns the 64 bits of a from its highest one on, and those of b at the same height.
func topLimbs(a, b api.Nat) (uint64, uint64) {
	top := len(a) - 1
	n := bits.LeadingZeros64(a[top])
	take := func(a api.Nat) uint64 { return limb(a, top)<<n | limb(a, top-1)>>(limbBits-n) }
	return take(a), take(b)
}

func limb(a api.Nat, i int) uint64 {
	if i < len(a) {
		return a[i]
	}
	return 0
}

// steps tells two remainders that follow each other, by those that the row begins with, a and b: the last one is a times lastOfA less b times lastOfB, the next one b times nextOfB less a times nextOfA; if odd, both with the other sign.
type steps struct {
	odd                                bool
	lastOfA, lastOfB, nextOfA, nextOfB uint64
}

// swapped tells the same remainders where b is in a's place, and a in b's.
func (s steps) swapped() steps {
	return steps{!s.odd, s.lastOfB, s.lastOfA, s.nextOfB, s.nextOfA}
}

// topSteps goes as far as the quotients of x and y are sure to be those of all numbers that begin with them. That is so under Collins's condition, which the loop asks; the factors are too small then to leave their 64 bits. If it can't go at all, lastOfB is 0.
func topSteps(x, y uint64) steps {
	s := steps{odd: true, nextOfA: 1}
	afterA, afterB := uint64(0), uint64(1)
	for y >= afterB && x-y >= s.nextOfB+afterB {
		q := x / y
		x, y = y, x%y
		s.lastOfA, s.nextOfA, afterA = s.nextOfA, afterA, s.nextOfA+q*afterA
		s.lastOfB, s.nextOfB, afterB = s.nextOfB, afterB, s.nextOfB+q*afterB
		s.odd = !s.odd
	}
	return s
}

// mix computes the limbs of one number times more, less another one times less, one after the other.
type mix struct{ more, less, carry, owed, borrow uint64 }

func (m *mix) limb(x, y uint64) uint64 {
	high, low := bits.Mul64(x, m.more)
	plus, c := bits.Add64(low, m.carry, 0)
	m.carry = high + c
	high, low = bits.Mul64(y, m.less)
	minus, c := bits.Add64(low, m.owed, 0)
	m.owed = high + c
	plus, m.borrow = bits.Sub64(plus, minus, m.borrow)
	return plus
}
