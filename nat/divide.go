package nat

import (
	"math"
	"math/bits"
	"slices"

	"stepstone/api"
)

// divide needs numbers that are trimmed, and a divisor that is not 0. Both results are memory of their own.
func divide(a, b api.Nat) (q, r api.Nat) {
	switch {
	case len(a) < len(b):
		return nil, slices.Clone(a)
	case len(b) == 1:
		q = slices.Clone(a)
		n := divideByLimb(q, b[0])
		return trim(q), Of(n)
	}
	// With the divisor's top bit set, a digit can be guessed from a few limbs.
	n := bits.LeadingZeros64(b[len(b)-1])
	q, rest := divideLong(shiftUp(a, n), shiftUp(b, n))
	return q, shiftDown(rest, n)
}

// divideByLimb leaves the quotient in a's memory, and returns what is left.
func divideByLimb(a api.Nat, b uint64) uint64 {
	left := uint64(0)
	for i := len(a) - 1; i >= 0; i-- {
		a[i], left = bits.Div64(left, a[i], b)
	}
	return left
}

// divideLong needs a divisor of at least two limbs whose top bit is set, and a number that has as many limbs, or more. What is left at the end is in that one's memory.
//
// Where the next digit of the quotient stands is told by what is left alone: so those that are 0 are never come to, and it may end well ahead of the lowest one.
func divideLong(rest, b api.Nat) (q, left api.Nat) {
	q = make(api.Nat, len(rest)-len(b)+1)
long:
	for {
		rest = trim(rest)
		at := len(rest) - len(b)
		switch {
		case at < 0:
			break long
		case compare(rest[at:], b) >= 0:
			// Both have as many limbs, and the divisor its top bit: so it goes in once.
			subtract(rest[at:], b)
			q[at] = 1
		case at == 0:
			break long
		default:
			q[at-1] = takeDigit(rest[at-1:], b)
		}
	}
	return trim(q), rest
}

// takeDigit subtracts b from top as often as it goes in, and returns how often.
func takeDigit(top, b api.Nat) uint64 {
	n := guessDigit(top, b)
	if subtractTimes(top, b, n) > 0 {
		n--
		add(top, b)
	}
	return n
}

// guessDigit returns the digit, or the digit plus 1, from three limbs of top and two of b. Top has one limb more than b, and is less than b one limb higher up.
func guessDigit(top, b api.Nat) uint64 {
	t, d := top[len(top)-3:], b[len(b)-2:]
	if t[2] == d[1] {
		return math.MaxUint64
	}
	// As b has its top bit, one limb of it makes the guess too great by 2 at most; the second one shows a 2 for sure, and a 1 nearly always.
	guess, left := bits.Div64(t[2], t[1], d[1])
	if high, low := bits.Mul64(guess, d[0]); high > left || high == left && low > t[0] {
		guess--
	}
	return guess
}
