package frac_test

import (
	"encoding/binary"
	"math"
	"math/big"
	"math/rand/v2"
	"slices"
	"testing"

	"stepstone/api"
)

const (
	ones    = math.MaxUint64
	top     = uint64(1) << 63
	maxBits = 64 * api.MaxLimbs
)

func pow2(n int) *big.Int { return new(big.Int).Lsh(big.NewInt(1), uint(n)) }

func plus(n *big.Int, d int64) *big.Int { return new(big.Int).Add(n, big.NewInt(d)) }

func times(n *big.Int, m *big.Int) *big.Int { return new(big.Int).Mul(n, m) }

func negative(n *big.Int) *big.Int { return new(big.Int).Neg(n) }

// allOnes is the number of n bits that are all 1.
func allOnes(n int) *big.Int { return plus(pow2(n), -1) }

func power(base int64, n int) *big.Int {
	return new(big.Int).Exp(big.NewInt(base), big.NewInt(int64(n)), nil)
}

func bigOfNat(m api.Nat) *big.Int {
	bytes := make([]byte, 0, 8*len(m))
	for _, x := range slices.Backward(m) {
		bytes = binary.BigEndian.AppendUint64(bytes, x)
	}
	return new(big.Int).SetBytes(bytes)
}

func bigOf(a api.Int) *big.Int {
	n := bigOfNat(a.M)
	if a.Neg {
		n.Neg(n)
	}
	return n
}

func natOf(n *big.Int) api.Nat {
	m := make(api.Nat, (n.BitLen()+63)/64)
	bytes := n.FillBytes(make([]byte, 8*len(m)))
	for i := range m {
		m[len(m)-1-i] = binary.BigEndian.Uint64(bytes[8*i:])
	}
	return m
}

func intOf(n *big.Int) api.Int { return api.Int{Neg: n.Sign() < 0, M: natOf(n)} }

// fracOf is the number as it is written, not as it is normal.
func fracOf(n, d *big.Int) api.Frac { return api.Frac{N: intOf(n), D: natOf(d)} }

func small(n, d int64) api.Frac { return fracOf(big.NewInt(n), big.NewInt(d)) }

func normal(r *big.Rat) api.Frac { return fracOf(r.Num(), r.Denom()) }

// valueOf needs a denominator that is not 0.
func valueOf(a api.Frac) *big.Rat { return new(big.Rat).SetFrac(bigOf(a.N), bigOfNat(a.D)) }

// turned is the number with the other sign, in the same memory.
func turned(a api.Frac) api.Frac { return api.Frac{N: api.Int{Neg: !a.N.Neg, M: a.N.M}, D: a.D} }

// padded is the number with limbs on top that are 0, so many and one more.
func padded(a api.Frac, n int) api.Frac {
	return api.Frac{N: api.Int{Neg: a.N.Neg, M: append(slices.Clone(a.N.M), make(api.Nat, n)...)}, D: append(slices.Clone(a.D), make(api.Nat, n+1)...)}
}

// widened is the number with a divisor in common.
func widened(a api.Frac, by *big.Int) api.Frac {
	return fracOf(times(bigOf(a.N), by), times(bigOfNat(a.D), by))
}

// zeros are ways of writing 0.
func zeros() []api.Frac {
	var l []api.Frac
	for _, m := range []api.Nat{nil, {}, {0}, {0, 0}, make(api.Nat, 2048), make(api.Nat, 2049), {7, 7}} {
		for _, d := range []api.Nat{{1}, {7}, {12, 0}, {0, 1}, {ones, ones, ones}} {
			if len(m) == 2 && m[0] == 7 {
				m = m[:0]
			}
			l = append(l, api.Frac{N: api.Int{M: m}, D: d}, api.Frac{N: api.Int{Neg: true, M: m}, D: d})
		}
	}
	return l
}

func tooLong() []api.Nat {
	one := append(make(api.Nat, 2048), 1)
	return []api.Nat{one, append(slices.Clone(one), 0, 0), slices.Repeat(api.Nat{ones}, 2049), append(make(api.Nat, 5000), 9)}
}

// notValid are numbers whose D is 0, or one of whose parts is too long, also where the normal number's is not.
func notValid() []api.Frac {
	var l []api.Frac
	for _, d := range []api.Nat{nil, {}, {0}, {0, 0, 0}, make(api.Nat, 2048), make(api.Nat, 5000), api.Nat{5}[:0]} {
		for _, n := range []int64{0, 1, -1, 12} {
			l = append(l, api.Frac{N: intOf(big.NewInt(n)), D: d})
		}
		l = append(l, api.Frac{N: api.Int{Neg: true}, D: d}, api.Frac{N: api.Int{M: tooLong()[0]}, D: d})
	}
	for _, m := range tooLong() {
		l = append(l, api.Frac{N: api.Int{M: m}, D: api.Nat{1}}, api.Frac{N: api.Int{Neg: true, M: m}, D: api.Nat{7, 0}}, api.Frac{N: api.Int{M: m}, D: m})
		l = append(l, api.Frac{D: m}, api.Frac{N: api.Int{M: api.Nat{1}}, D: m}, api.Frac{N: api.Int{Neg: true, M: api.Nat{6, 6}}, D: m})
	}
	return append(l, fracOf(pow2(maxBits), pow2(maxBits-1)), fracOf(pow2(maxBits-1), pow2(maxBits)))
}

// someFracs are numbers of both signs: short and long ones, whole ones, such as end where a limb does, near to 0 and far from it, and not normal.
func someFracs() []api.Frac {
	var l []api.Frac
	parts := []*big.Int{
		big.NewInt(1), big.NewInt(2), big.NewInt(3), big.NewInt(6), big.NewInt(10), big.NewInt(45), allOnes(63), pow2(63), allOnes(64), pow2(64), plus(pow2(64), 1),
		new(big.Int).Lsh(allOnes(64), 64), plus(pow2(127), 1), new(big.Int).Lsh(big.NewInt(12345), 150), allOnes(1000), power(10, 40),
	}
	for i, n := range parts {
		for j, d := range parts {
			switch (7*i + 3*j) % 5 {
			case 0:
				l = append(l, fracOf(n, d), fracOf(negative(n), d))
			case 1:
				l = append(l, padded(fracOf(negative(n), d), i%3))
			case 2:
				l = append(l, fracOf(negative(n), big.NewInt(1)), fracOf(n, big.NewInt(1)))
			}
		}
	}
	return append(l, small(-1, 1), small(3, 2), small(-3, 2), small(-4, 2), small(12, 4), small(-100, 20), small(5, 5), small(-7, 7))
}

// anyNat is a number of up to so many limbs, some of which may be 0, also on top.
func anyNat(g *rand.Rand, most int) api.Nat {
	edges := []uint64{0, 1, 2, 6, 10, top - 1, top, ones - 1, ones}
	m := make(api.Nat, g.IntN(most+1))
	kind := g.IntN(3)
	for i := range m {
		switch kind {
		case 0:
			m[i] = g.Uint64()
		case 1:
			m[i] = edges[g.IntN(len(edges))]
		default:
			m[i] = g.Uint64() >> g.IntN(64) << g.IntN(64) * uint64(g.IntN(2))
		}
	}
	return m
}

// anyFrac often has divisors in common, or is whole.
func anyFrac(g *rand.Rand, most int) api.Frac {
	a := api.Frac{N: api.Int{Neg: g.IntN(2) == 0, M: anyNat(g, most)}, D: anyNat(g, most)}
	if bigOfNat(a.D).Sign() == 0 || g.IntN(5) == 0 {
		a.D = append(api.Nat{uint64(1 + g.IntN(12))}, make(api.Nat, g.IntN(2))...)
	}
	if g.IntN(3) == 0 {
		a = widened(a, plus(bigOfNat(anyNat(g, 2)), 1))
	}
	return a
}

// anyPairs calls for many pairs of numbers, among them often such as are equal but for the way they are written, next to each other, or of one denominator.
func anyPairs(seed uint64, count, most int, f func(a, b api.Frac)) {
	g := rand.New(rand.NewPCG(6, seed))
	for range count {
		a, b := anyFrac(g, most), anyFrac(g, most)
		switch g.IntN(5) {
		case 0:
			b = widened(a, big.NewInt(1+g.Int64N(100)))
			b.N.Neg = g.IntN(3) == 0
		case 1:
			b = widened(a, big.NewInt(1+g.Int64N(100)))
			b.N = intOf(plus(bigOf(b.N), g.Int64N(3)-1))
		case 2:
			b.D = a.D
		}
		f(a, b)
	}
}

// isFrac checks a result: that it is the number, normal, and that there was no error.
func isFrac(t *testing.T, want *big.Rat, got api.Frac, e api.Errno, what string, of ...api.Frac) {
	t.Helper()
	n, d := bigOf(got.N), bigOfNat(got.D)
	switch {
	case e != api.OK:
		t.Errorf("%s of %s: error %d", what, shown(of...), e)
	case n.Cmp(want.Num()) != 0 || d.Cmp(want.Denom()) != 0:
		t.Errorf("%s of %s = %s, want %s", what, shown(of...), shown(got), shown(normal(want)))
	case (n.BitLen()+63)/64 != len(got.N.M), (d.BitLen()+63)/64 != len(got.D), n.Sign() == 0 && got.N.Neg:
		t.Errorf("%s of %s: not normal: Neg %v, %d and %d limbs", what, shown(of...), got.N.Neg, len(got.N.M), len(got.D))
	}
}

// fails checks that there is that error, and nothing else.
func fails(t *testing.T, want api.Errno, got api.Frac, e api.Errno, what string, of ...api.Frac) {
	t.Helper()
	if e != want || got.N.Neg || len(got.N.M) != 0 || len(got.D) != 0 {
		t.Errorf("%s of %s: error %d, Neg %v, %d and %d limbs, want error %d and none", what, shown(of...), e, got.N.Neg, len(got.N.M), len(got.D), want)
	}
}

func anyTooLong(l ...*big.Int) bool {
	return slices.ContainsFunc(l, func(n *big.Int) bool { return n.BitLen() > maxBits })
}

// reduced is what both are, divided by their common divisor.
func reduced(a api.Frac) api.Frac { return normal(valueOf(a)) }

// mayBeLong tells whether a call may, and whether it must, find that one of the parts that it computes from both numbers is too long. Where that is so only as divisors in common were not divided out ahead, it may.
func mayBeLong(parts func(a, b api.Frac) []*big.Int, a, b api.Frac) (may, must bool) {
	if !anyTooLong(parts(a, b)...) {
		return false, false
	}
	return true, anyTooLong(parts(reduced(a), reduced(b))...)
}

// isComputed checks a result that is computed from such parts.
func isComputed(t *testing.T, want *big.Rat, got api.Frac, e api.Errno, parts func(a, b api.Frac) []*big.Int, what string, a, b api.Frac) {
	t.Helper()
	if may, must := mayBeLong(parts, a, b); must || may && e != api.OK {
		fails(t, api.ErrLong, got, e, what, a, b)
		return
	}
	isFrac(t, want, got, e, what, a, b)
}

// shown is numbers as far as a message has room for them.
func shown(l ...api.Frac) string {
	cut := func(n *big.Int) string {
		text := n.Text(16)
		if len(text) > 100 {
			text = text[:40] + ".." + text[len(text)-40:]
		}
		return text
	}
	s := ""
	for _, a := range l {
		s += " " + cut(bigOf(a.N)) + "/" + cut(bigOfNat(a.D))
	}
	return "(" + s + " in hexadecimal )"
}
