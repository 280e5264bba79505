package nat

import "stepstone/api"

// squareRoot needs a number that is trimmed. The result is new memory.
func squareRoot(a api.Nat) api.Nat {
	if len(a) <= 1 {
		return Of(limbRoot(limb(a, 0)))
	}
	// The root of the upper half of the bits is the upper half of the root's: with 1 more, it is above the root.
	n := Bits(a) / 4
	x := shiftUp(sum(squareRoot(shiftDown(a, 2*n)), Of(1)), n)
	for {
		// From above the root Newton's steps fall, till they have come to it.
		q, _ := divide(a, x)
		y := shiftDown(sum(x, q), 1)
		if compare(y, x) >= 0 {
			return x
		}
		x = y
	}
}

func limbRoot(n uint64) uint64 {
	root := uint64(0)
	for bit := uint64(1 << 31); bit > 0; bit >>= 1 {
		if r := root | bit; r*r <= n {
			root = r
		}
	}
	return root
}
