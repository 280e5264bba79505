package nat

import (
	"iter"
	"math/bits"

	"stepstone/api"
)

// pairs produces the limbs of a, the lowest first, each with that of b at its side, or 0 where b has ended: b is not the longer one.
func pairs(a, b api.Nat) iter.Seq2[uint64, uint64] {
	return func(yield func(x, y uint64) bool) {
		for i, x := range a {
			y := uint64(0)
			if i < len(b) {
				y = b[i]
			}
			if !yield(x, y) {
				return
			}
		}
	}
}

// pairsDown produces the limbs of two numbers of one length side by side, the highest first.
func pairsDown(a, b api.Nat) iter.Seq2[uint64, uint64] {
	return func(yield func(x, y uint64) bool) {
		for i := len(a) - 1; i >= 0; i-- {
			if !yield(a[i], b[i]) {
				return
			}
		}
	}
}

func trim(a api.Nat) api.Nat {
	for len(a) > 0 && a[len(a)-1] == 0 {
		a = a[:len(a)-1]
	}
	return a
}

// tooLong needs numbers that are trimmed.
func tooLong(l ...api.Nat) bool {
	for _, a := range l {
		if len(a) > api.MaxLimbs {
			return true
		}
	}
	return false
}

// result needs memory that nobody else has.
func result(out api.Nat) (api.Nat, api.Errno) {
	out = trim(out)
	if tooLong(out) {
		return nil, api.ErrLong
	}
	return out, api.OK
}

// compare needs numbers that are trimmed.
func compare(a, b api.Nat) int {
	if len(a) != len(b) {
		return sign(len(a) < len(b))
	}
	for x, y := range pairsDown(a, b) {
		if x != y {
			return sign(x < y)
		}
	}
	return 0
}

func sign(less bool) int {
	if less {
		return -1
	}
	return 1
}

// add adds b to a in a's memory, and returns what is carried out of it on top.
func add(a, b api.Nat) uint64 {
	i, carry := 0, uint64(0)
	for x, y := range pairs(a, b) {
		a[i], carry = bits.Add64(x, y, carry)
		i++
	}
	return carry
}

func sum(a, b api.Nat) api.Nat {
	out := make(api.Nat, max(len(a), len(b))+1)
	copy(out, a)
	add(out, b)
	return trim(out)
}

// subtract subtracts b from a in a's memory; b is not above a.
func subtract(a, b api.Nat) {
	i, borrow := 0, uint64(0)
	for x, y := range pairs(a, b) {
		a[i], borrow = bits.Sub64(x, y, borrow)
		i++
	}
}

// addTimes adds b, n times, to a in a's memory, and returns what is carried out of it on top.
func addTimes(a, b api.Nat, n uint64) uint64 {
	i, carry := 0, uint64(0)
	for x, y := range pairs(a, b) {
		high, low := bits.Mul64(y, n)
		low, c := bits.Add64(low, carry, 0)
		high += c
		a[i], c = bits.Add64(x, low, 0)
		carry = high + c
		i++
	}
	return carry
}

// subtractTimes subtracts b, n times, from a in a's memory, and returns what is borrowed from above it.
func subtractTimes(a, b api.Nat, n uint64) uint64 {
	i, borrow := 0, uint64(0)
	for x, y := range pairs(a, b) {
		high, low := bits.Mul64(y, n)
		low, c := bits.Add64(low, borrow, 0)
		high += c
		a[i], c = bits.Sub64(x, low, 0)
		borrow = high + c
		i++
	}
	return borrow
}

func multiply(a, b api.Nat) api.Nat {
	if len(a) < len(b) {
		a, b = b, a
	}
	out := make(api.Nat, len(a)+len(b))
	for i, n := range b {
		// What is above was not reached yet, so nothing is carried further than one limb.
		out[i+len(a)] = addTimes(out[i:i+len(a)], a, n)
	}
	return out
}

func shiftUp(a api.Nat, n int) api.Nat {
	whole, part := n/limbBits, n%limbBits
	out := make(api.Nat, whole+len(a)+1)
	for i, x := range a {
		out[whole+i] |= x << part
		out[whole+i+1] = x >> (limbBits - part)
	}
	return trim(out)
}

func shiftDown(a api.Nat, n int) api.Nat {
	whole, part := n/limbBits, n%limbBits
	if whole >= len(a) {
		return nil
	}
	a = a[whole:]
	out := make(api.Nat, 0, len(a))
	for x, above := range pairs(a, a[1:]) {
		out = append(out, x>>part|above<<(limbBits-part))
	}
	return trim(out)
}
