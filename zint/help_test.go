package zint_test

import (
	"encoding/binary"
	"math"
	"math/big"
	"math/rand/v2"
	"slices"
	"testing"

	"stepstone/api"
	"stepstone/zint"
)

const (
	ones    = math.MaxUint64
	top     = uint64(1) << 63
	maxBits = 64 * api.MaxLimbs
)

// bigOf is the integer's value.
func bigOf(a api.Int) *big.Int {
	bytes := make([]byte, 0, 8*len(a.M))
	for _, x := range slices.Backward(a.M) {
		bytes = binary.BigEndian.AppendUint64(bytes, x)
	}
	n := new(big.Int).SetBytes(bytes)
	if a.Neg {
		n.Neg(n)
	}
	return n
}

// intOf is the value as an integer, normal.
func intOf(n *big.Int) api.Int {
	a := api.Int{Neg: n.Sign() < 0, M: make(api.Nat, (n.BitLen()+63)/64)}
	bytes := n.FillBytes(make([]byte, 8*len(a.M)))
	for i := range a.M {
		a.M[len(a.M)-1-i] = binary.BigEndian.Uint64(bytes[8*i:])
	}
	return a
}

func small(n int64) api.Int { return intOf(big.NewInt(n)) }

func pow2(n int) *big.Int { return new(big.Int).Lsh(big.NewInt(1), uint(n)) }

func plus(n *big.Int, d int64) *big.Int { return new(big.Int).Add(n, big.NewInt(d)) }

func negative(n *big.Int) *big.Int { return new(big.Int).Neg(n) }

// turned is the integer with the other sign, in the same memory.
func turned(a api.Int) api.Int { return api.Int{Neg: !a.Neg, M: a.M} }

// padded is the integer with limbs on top that are 0.
func padded(a api.Int, n int) api.Int {
	return api.Int{Neg: a.Neg, M: append(slices.Clone(a.M), make(api.Nat, n)...)}
}

// most is the greatest integer that is not too long.
func most() *big.Int { return plus(pow2(maxBits), -1) }

// zeros are the ways of writing 0.
func zeros() []api.Int {
	var l []api.Int
	for _, m := range []api.Nat{nil, {}, {0}, {0, 0}, make(api.Nat, 2048), make(api.Nat, 2049), make(api.Nat, 5000), api.Nat{7, 7}[:0]} {
		l = append(l, api.Int{M: m}, api.Int{Neg: true, M: m})
	}
	return l
}

// tooLongs are integers that are too long.
func tooLongs() []api.Int {
	var l []api.Int
	one := append(make(api.Nat, 2048), 1)
	for _, m := range []api.Nat{one, append(slices.Clone(one), 0, 0), slices.Repeat(api.Nat{ones}, 2049), slices.Repeat(api.Nat{ones}, 5000)} {
		l = append(l, api.Int{M: m}, api.Int{Neg: true, M: m})
	}
	return l
}

// longest are integers next to the limit, of both signs.
func longest() []*big.Int {
	var l []*big.Int
	for _, n := range []*big.Int{most(), plus(most(), -1), pow2(maxBits - 1), plus(pow2(maxBits-1), 1), plus(pow2(maxBits-1), -1), new(big.Int).Lsh(big.NewInt(3), maxBits-2)} {
		l = append(l, n, negative(n))
	}
	return l
}

// someInts are integers of both signs, next to where a limb, or the range of an int64, ends, and some longer ones.
func someInts() []api.Int {
	g := rand.New(rand.NewPCG(4, 64))
	l := []api.Int{{}, {Neg: true}}
	for _, m := range []api.Nat{{1}, {2}, {3}, {5}, {7}, {8}, {10}, {12}, {99}, {1<<32 - 1}, {1 << 32}, {top - 1}, {top}, {top + 1}, {ones - 1}, {ones},
		{0, 1}, {1, 1}, {ones, 1}, {0, 2}, {top, 1}, {0, top}, {ones, ones}, {0, 0, 1}, {1, 0, 1}, {ones, ones, ones}, {0, top, 0, 1}} {
		l = append(l, api.Int{M: m}, api.Int{Neg: true, M: m})
	}
	for _, n := range []int{3, 4, 7, 33} {
		a, b := anyInt(g, n), anyInt(g, n)
		l = append(l, a, b, turned(a))
	}
	return l
}

// anyInt is an integer of up to so many limbs, of any sign, some of whose limbs may be 0, also on top.
func anyInt(g *rand.Rand, most int) api.Int {
	edges := []uint64{0, 1, 2, top - 1, top, top + 1, ones - 1, ones}
	a := api.Int{Neg: g.IntN(2) == 0, M: make(api.Nat, g.IntN(most+1))}
	kind := g.IntN(3)
	for i := range a.M {
		switch kind {
		case 0:
			a.M[i] = g.Uint64()
		case 1:
			a.M[i] = edges[g.IntN(len(edges))]
		default:
			a.M[i] = g.Uint64() >> g.IntN(64) * uint64(g.IntN(2))
		}
	}
	return a
}

// anyPairs calls for many pairs of integers, among them often such of one magnitude, or of which one is a multiple of half the other, or next to it.
func anyPairs(seed uint64, count, most int, f func(a, b api.Int)) {
	g := rand.New(rand.NewPCG(4, seed))
	for range count {
		a, b := anyInt(g, most), anyInt(g, most)
		switch g.IntN(4) {
		case 0:
			b = padded(a, g.IntN(2))
			b.Neg = g.IntN(2) == 0
		case 1:
			n := new(big.Int).Mul(bigOf(a), bigOf(b))
			a, b = intOf(plus(n, int64(g.IntN(3)-1))), intOf(new(big.Int).Lsh(bigOf(b), 1))
		}
		f(a, b)
	}
}

// isInt checks a result: its value, that it is normal, that there was no error.
func isInt(t *testing.T, want *big.Int, got api.Int, e api.Errno, what string, of ...api.Int) {
	t.Helper()
	if e != api.OK {
		t.Errorf("%s of %s: error %d", what, shown(of...), e)
	} else if n := len(got.M); n > 0 && got.M[n-1] == 0 {
		t.Errorf("%s of %s: not normal: %d limbs, those on top are 0", what, shown(of...), n)
	} else if got.Neg && n == 0 {
		t.Errorf("%s of %s: not normal: 0 with Neg set", what, shown(of...))
	} else if bigOf(got).Cmp(want) != 0 {
		t.Errorf("%s of %s = %s, want %s", what, shown(of...), shown(got), shown(intOf(want)))
	}
}

// fails checks that there is that error, and nothing else.
func fails(t *testing.T, want api.Errno, got api.Int, e api.Errno, what string, of ...api.Int) {
	t.Helper()
	if e != want || got.Neg || len(got.M) != 0 {
		t.Errorf("%s of %s: error %d, Neg %v and %d limbs, want error %d and 0", what, shown(of...), e, got.Neg, len(got.M), want)
	}
}

// upToTheLimit checks for the value, or that it was too long.
func upToTheLimit(t *testing.T, want *big.Int, got api.Int, e api.Errno, what string, of ...api.Int) {
	t.Helper()
	if want.BitLen() > maxBits {
		fails(t, api.ErrLong, got, e, what, of...)
	} else {
		isInt(t, want, got, e, what, of...)
	}
}

// shown is integers as far as a message has room for them.
func shown(l ...api.Int) string {
	s := ""
	for _, a := range l {
		text := bigOf(a).Text(16)
		if len(text) > 100 {
			text = text[:40] + ".." + text[len(text)-40:]
		}
		s += " " + text
	}
	return "(" + s + " in hexadecimal )"
}

// norm is a shorthand where there can be no error.
func norm(a api.Int) api.Int {
	out, _ := zint.Norm(a)
	return out
}

func same(a, b api.Int) bool { return a.Neg == b.Neg && slices.Equal(a.M, b.M) }
