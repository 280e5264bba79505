package nat_test

import (
	"math/big"
	"slices"
	"testing"

	"stepstone/api"
	"stepstone/nat"
)

func divides(t *testing.T, a, b api.Nat) {
	t.Helper()
	q, r, e := nat.Div(a, b)
	if bigOf(b).Sign() == 0 {
		fails(t, api.ErrArg, q, e, "Div", a, b)
		fails(t, api.ErrArg, r, e, "Div", a, b)
		return
	}
	m, n := new(big.Int).QuoRem(bigOf(a), bigOf(b), new(big.Int))
	isNat(t, m, q, e, "the quotient", a, b)
	isNat(t, n, r, e, "what is left", a, b)
}

// P3.3: the chapter's example, and others that are easily told.
func TestDivExamples(t *testing.T) {
	for _, c := range []struct{ a, b, q, r api.Nat }{
		{api.Nat{0, 1}, api.Nat{10}, api.Nat{1844674407370955161}, api.Nat{6}},
		{api.Nat{7}, api.Nat{2}, api.Nat{3}, api.Nat{1}},
		{api.Nat{7}, api.Nat{8}, nil, api.Nat{7}},
		{api.Nat{7}, api.Nat{7}, api.Nat{1}, nil},
		{api.Nat{7}, api.Nat{1}, api.Nat{7}, nil},
		{nil, api.Nat{3}, nil, nil},
		{api.Nat{5, 7}, api.Nat{0, 1}, api.Nat{7}, api.Nat{5}},
		{api.Nat{5, 7, 9}, api.Nat{0, 1}, api.Nat{7, 9}, api.Nat{5}},
		{api.Nat{0, 0, 0, 6}, api.Nat{0, 3}, api.Nat{0, 0, 2}, nil},
		{api.Nat{9, 8, 7}, api.Nat{9, 8, 7}, api.Nat{1}, nil},
		{api.Nat{8, 8, 7}, api.Nat{9, 8, 7}, nil, api.Nat{8, 8, 7}},
	} {
		q, r, e := nat.Div(append(c.a, 0), append(c.b, 0))
		if e != api.OK || !slices.Equal(q, c.q) || !slices.Equal(r, c.r) {
			t.Errorf("%v by %v = %v, %v, error %d", c.a, c.b, q, r, e)
		}
	}
}

// P3.3: all pairs of the numbers, 0 among the divisors; divisors of one limb, of as many as the number, of more.
func TestDiv(t *testing.T) {
	l := append(someNumbers(), zeros()...)
	for _, a := range l {
		for _, b := range l {
			divides(t, a, b)
		}
	}
	anyPairs(34, 60000, 7, func(a, b api.Nat) { divides(t, a, b) })
	anyPairs(35, 3000, 30, func(a, b api.Nat) { divides(t, a, b) })
}

// P3.3: digits that a few limbs let seem too great, by 1 and by 2, also if only the whole divisor tells; digits that are all ones; digits that are 0.
func TestDivDigits(t *testing.T) {
	for _, c := range []struct{ a, b api.Nat }{
		{api.Nat{0, 0, half, half - 1}, api.Nat{1, 0, half}},
		{api.Nat{0, 0, half - 1, half}, api.Nat{ones, 0, half}},
		{api.Nat{3, 0, half}, api.Nat{1, 0, half >> 2}},
		{api.Nat{0, ones, ones - 1}, api.Nat{ones, ones}},
		{api.Nat{0, 0, ones - 1, ones}, api.Nat{ones, ones}},
		{api.Nat{0, 0, 0, 0, half}, api.Nat{ones, half}},
		{api.Nat{0, 0, 0, 0, 0, half}, api.Nat{1, ones, half}},
		{api.Nat{0, ones, half, half}, api.Nat{ones, half, half}},
		{api.Nat{5, 0, 0, 0, 0, 0, 0, 1}, api.Nat{6, 0, 1}},
		{api.Nat{5, 0, 0, 0, 1, 0, 0, 1}, api.Nat{0, 0, 0, 1}},
		{api.Nat{5, 0, 0, 0, 1, 0, 0, 1}, api.Nat{1, 0, 0, 1}},
	} {
		divides(t, c.a, c.b)
	}
	limbs := []uint64{0, 1, half - 1, half, half + 1, ones - 1, ones}
	for _, a0 := range limbs {
		for _, a1 := range limbs {
			for _, a2 := range limbs {
				for _, a3 := range limbs {
					for _, b0 := range []uint64{0, 1, ones} {
						for _, b1 := range limbs {
							divides(t, api.Nat{a0, a1, a2, a3}, api.Nat{b0, b1})
							divides(t, api.Nat{a0, a1, a2, a3}, api.Nat{b0, b1, half})
						}
					}
				}
			}
		}
	}
}

// P3.3: numbers and divisors up to 2048 limbs.
func TestDivLong(t *testing.T) {
	top := append(make(api.Nat, 2047), 1)
	some := append(make(api.Nat, 1024), slices.Repeat(api.Nat{half + 5, 3}, 512)...)
	for _, a := range []api.Nat{allOnes(2048), top, some, append(allOnes(2048), 0, 0)} {
		for _, b := range []api.Nat{{1}, {10}, {ones}, {0, 1}, {ones, 1}, allOnes(2), allOnes(1000), some[:2047], top, allOnes(2047), allOnes(2048), append(allOnes(2048), 0)} {
			divides(t, a, b)
		}
		divides(t, a, make(api.Nat, 2048))
	}
}

// P3.4: shifts by each number of bits, the chapter's limits, and by far more.
func TestShifts(t *testing.T) {
	for _, a := range append(someNumbers(), zeros()...) {
		m := bigOf(a)
		for _, n := range []int{0, 1, 2, 31, 32, 33, 63, 64, 65, 127, 128, 129, 192, 1000, 4096} {
			got, e := nat.Shl(a, n)
			isNat(t, new(big.Int).Lsh(m, uint(n)), got, e, "Shl", a, nat.Of(uint64(n)))
			got, e = nat.Shr(a, n)
			isNat(t, new(big.Int).Rsh(m, uint(n)), got, e, "Shr", a, nat.Of(uint64(n)))
			// Limbs that are 0 on top make no difference.
			got, e = nat.Shl(append(slices.Clone(a), 0, 0), n)
			isNat(t, new(big.Int).Lsh(m, uint(n)), got, e, "Shl", a, nat.Of(uint64(n)))
			got, e = nat.Shr(append(slices.Clone(a), 0, 0), n)
			isNat(t, new(big.Int).Rsh(m, uint(n)), got, e, "Shr", a, nat.Of(uint64(n)))
		}
	}
	long := append(make(api.Nat, 700), anyNumber(800)...)
	for n := range 200 {
		got, e := nat.Shl(long, n)
		isNat(t, new(big.Int).Lsh(bigOf(long), uint(n)), got, e, "Shl", long)
		got, e = nat.Shr(long, n+44700)
		isNat(t, new(big.Int).Rsh(bigOf(long), uint(n+44700)), got, e, "Shr", long)
	}
}

// anyNumber is a number of so many limbs, none of which is 0.
func anyNumber(n int) api.Nat {
	a := make(api.Nat, n)
	for i := range a {
		a[i] = 0x9e3779b97f4a7c15 * uint64(i+1)
	}
	return a
}

// P3.4: shifts that lead up to the limit, out of it, to nothing; below 0.
func TestShiftsAtTheEnds(t *testing.T) {
	far := []int{maxBits, maxBits + 1, maxBits + 64, 1 << 31, 1 << 40, 1<<63 - 1, 1<<63 - 64}
	for _, a := range append(fewNumbers(), allOnes(2047), allOnes(2048)) {
		most := maxBits - bigOf(a).BitLen()
		if len(a) == 0 {
			continue
		}
		got, e := nat.Shl(a, most)
		isNat(t, new(big.Int).Lsh(bigOf(a), uint(most)), got, e, "Shl to the limit", a)
		for _, n := range append([]int{most + 1, most + 63, most + 64, most + 65}, far...) {
			if n > most {
				got, e = nat.Shl(a, n)
				fails(t, api.ErrLong, got, e, "Shl out of the limit", a)
			}
		}
		for _, n := range append([]int{bigOf(a).BitLen(), bigOf(a).BitLen() + 1}, far...) {
			got, e = nat.Shr(a, n)
			isNat(t, new(big.Int), got, e, "Shr to nothing", a)
		}
		got, e = nat.Shr(a, bigOf(a).BitLen()-1)
		isNat(t, big.NewInt(1), got, e, "Shr to the last bit", a)
	}
	for _, z := range zeros() {
		for _, n := range append([]int{0, 1, 64}, far...) {
			got, e := nat.Shl(z, n)
			isNat(t, new(big.Int), got, e, "Shl", z)
			got, e = nat.Shr(z, n)
			isNat(t, new(big.Int), got, e, "Shr", z)
		}
	}
	for _, a := range append(append(fewNumbers(), zeros()...), allOnes(2048)) {
		for _, n := range []int{-1, -64, -1 << 31, -1 << 63} {
			got, e := nat.Shl(a, n)
			fails(t, api.ErrArg, got, e, "Shl below 0", a)
			got, e = nat.Shr(a, n)
			fails(t, api.ErrArg, got, e, "Shr below 0", a)
		}
	}
}
