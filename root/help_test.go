package root_test

import (
	"encoding/binary"
	"math"
	"math/big"
	"math/rand/v2"
	"slices"
	"strconv"
	"strings"
	"testing"

	"stepstone/api"
)

const (
	far     = api.MaxExp
	maxBits = 64 * api.MaxLimbs
)

func directions() []bool { return []bool{false, true} }

func pow2(n int) *big.Int { return new(big.Int).Lsh(big.NewInt(1), uint(n)) }

func plus(n *big.Int, d int64) *big.Int { return new(big.Int).Add(n, big.NewInt(d)) }

func square(n *big.Int) *big.Int { return new(big.Int).Mul(n, n) }

func negative(n *big.Int) *big.Int { return new(big.Int).Neg(n) }

// allOnes is the number of n bits that are all 1.
func allOnes(n int) *big.Int { return plus(pow2(n), -1) }

func natOf(n *big.Int) api.Nat {
	m := make(api.Nat, (n.BitLen()+63)/64)
	bytes := n.FillBytes(make([]byte, 8*len(m)))
	for i := range m {
		m[len(m)-1-i] = binary.BigEndian.Uint64(bytes[8*i:])
	}
	return m
}

func bigOf(a api.Int) *big.Int {
	var bytes []byte
	for _, limb := range slices.Backward(a.M) {
		bytes = binary.BigEndian.AppendUint64(bytes, limb)
	}
	n := new(big.Int).SetBytes(bytes)
	if a.Neg {
		n.Neg(n)
	}
	return n
}

// written is a number as it is written, not as it is normal.
func written(m *big.Int, e int) api.Dyad {
	return api.Dyad{M: api.Int{Neg: m.Sign() < 0, M: natOf(m)}, E: e}
}

func small(m int64, e int) api.Dyad { return written(big.NewInt(m), e) }

// odd is a normal number, which may be out of the bounds.
func odd(m *big.Int, e int) api.Dyad {
	if m.Sign() == 0 {
		return api.Dyad{}
	}
	n := m.TrailingZeroBits()
	return written(new(big.Int).Rsh(m, n), e+int(n))
}

// padded is the number with limbs on top that are 0.
func padded(a api.Dyad, n int) api.Dyad {
	return api.Dyad{M: api.Int{Neg: a.M.Neg, M: append(slices.Clone(a.M.M), make(api.Nat, n)...)}, E: a.E}
}

// num reads an integer, or an integer, p and an exponent; what is even is made odd.
func num(s string) api.Dyad {
	digits, exponent, is := strings.Cut(s, "p")
	m, ok := new(big.Int).SetString(digits, 10)
	e, err := strconv.Atoi(exponent)
	if !ok || is != (err == nil) {
		panic(s + " is no number")
	}
	return odd(m, e)
}

func some(lo, hi api.Dyad) api.Ivl { return api.Ivl{Kind: api.IvSome, Lo: lo, Hi: hi} }

func unknown() api.Ivl { return api.Ivl{} }

func undef() api.Ivl { return api.Ivl{Kind: api.IvUndef} }

// known reads both bounds, or the one number that both are.
func known(s string) api.Ivl {
	lo, hi, ok := strings.Cut(s, " ")
	if !ok {
		hi = lo
	}
	return some(num(lo), num(hi))
}

func sameNumber(a, b api.Dyad) bool {
	return a.E == b.E && a.M.Neg == b.M.Neg && slices.Equal(a.M.M, b.M.M)
}

// same tells whether intervals are, to the last limb, written in one way.
func same(a, b api.Ivl) bool {
	return a.Kind == b.Kind && sameNumber(a.Lo, b.Lo) && sameNumber(a.Hi, b.Hi)
}

// shown is numbers as far as a message has room for them.
func shown(l ...api.Dyad) string {
	var out []string
	for _, a := range l {
		text := bigOf(a.M).Text(16)
		if len(text) > 80 {
			text = text[:35] + ".." + text[len(text)-35:]
		}
		out = append(out, "0x"+text+"p"+strconv.Itoa(a.E)+" in "+strconv.Itoa(len(a.M.M))+" limbs")
	}
	return "(" + strings.Join(out, "; ") + ")"
}

func shownIvl(a api.Ivl) string { return "kind " + strconv.Itoa(int(a.Kind)) + " " + shown(a.Lo, a.Hi) }

// is checks that the result is that number, to the last limb, and that there was no error.
func is(t *testing.T, want, got api.Dyad, e api.Errno, what string, of ...api.Dyad) {
	t.Helper()
	if e != api.OK || !sameNumber(want, got) {
		t.Errorf("%s of %s = %s, error %d, want %s", what, shown(of...), shown(got), e, shown(want))
	}
}

// fails checks that there is that error, and nothing else.
func fails(t *testing.T, want api.Errno, got api.Dyad, e api.Errno, what string, of ...api.Dyad) {
	t.Helper()
	if e != want || got.M.Neg || len(got.M.M) != 0 || got.E != 0 {
		t.Errorf("%s of %s = %s, error %d, want error %d and 0", what, shown(of...), shown(got), e, want)
	}
}

func isIvl(t *testing.T, want, got api.Ivl, a api.Ivl, p int) {
	t.Helper()
	if !same(want, got) {
		t.Errorf("Of of %s to %d bits = %s, want %s", shownIvl(a), p, shownIvl(got), shownIvl(want))
	}
}

// zeros are ways of writing 0.
func zeros() []api.Dyad {
	var l []api.Dyad
	for _, m := range []api.Nat{nil, {}, {0}, {0, 0}, make(api.Nat, 2048), make(api.Nat, 2049), make(api.Nat, 20000), api.Nat{7, 7}[:0]} {
		for _, e := range []int{0, 1, -1, 2, 64, -77, far - 1, far, 1 - far, -far} {
			l = append(l, api.Dyad{M: api.Int{M: m}, E: e}, api.Dyad{M: api.Int{Neg: true, M: m}, E: e})
		}
	}
	return l
}

// notValid are numbers whose integer is too long, or whose exponent is too far, also where the normal number's is not.
func notValid() []api.Dyad {
	var l []api.Dyad
	tooLong := append(make(api.Nat, api.MaxLimbs), 1)
	for _, m := range []api.Nat{tooLong, append(slices.Clone(tooLong), 0, 0), slices.Repeat(api.Nat{math.MaxUint64}, api.MaxLimbs+1)} {
		for _, e := range []int{0, -5, far, -far, far + 1} {
			l = append(l, api.Dyad{M: api.Int{M: m}, E: e}, api.Dyad{M: api.Int{Neg: true, M: m}, E: e})
		}
	}
	for _, m := range []int64{1, -1, 2, 4, -8, 0, 9, 1 << 40} {
		for _, e := range []int{far + 1, far + 2, -far - 1, -far - 2, -far - 40, math.MaxInt, math.MinInt, math.MaxInt - 1, math.MinInt + 1} {
			l = append(l, small(m, e))
		}
	}
	return append(l, api.Dyad{M: api.Int{Neg: true}, E: far + 1}, api.Dyad{M: api.Int{M: make(api.Nat, 5000)}, E: -far - 1}, written(pow2(maxBits-1), -far-maxBits), written(pow2(64), -far-1), written(pow2(64), -far-64))
}

// tooFar are numbers that are valid, but not when they are normal.
func tooFar() []api.Dyad {
	return []api.Dyad{small(2, far), small(4, far), small(12, far), small(36, far-1), written(pow2(64), far-63), padded(written(pow2(100), far), 3), written(pow2(maxBits-1), far), written(pow2(maxBits-1), far-maxBits+2)}
}

// someDyads are numbers above 0: short ones, such as end where a limb does, even ones, some of them not normal; each with exponents that are even, odd and below 0.
func someDyads() []api.Dyad {
	var l []api.Dyad
	for i, m := range []*big.Int{
		big.NewInt(1), big.NewInt(2), big.NewInt(3), big.NewInt(4), big.NewInt(5), big.NewInt(7), big.NewInt(9), big.NewInt(12), big.NewInt(45), big.NewInt(96), big.NewInt(1 << 40),
		allOnes(63), pow2(63), allOnes(64), pow2(64), plus(pow2(64), 1), allOnes(65), new(big.Int).Lsh(allOnes(64), 64), plus(pow2(127), 1), pow2(128), square(allOnes(64)), new(big.Int).Lsh(big.NewInt(12345), 150), allOnes(1000),
	} {
		exponents := []int{1, -1, -2, 3, 63, -64, 200, -900, -901, 4001}
		for _, e := range []int{0, 1, -1, exponents[i%10], exponents[(4*i+2)%10]} {
			l = append(l, written(m, e), padded(written(m, e), i%3))
		}
	}
	return l
}

// anyDyad is a number above 0 of up to so many limbs, some of whose limbs may be 0, also on top and at the end.
func anyDyad(g *rand.Rand, most int) api.Dyad {
	edges := []uint64{0, 1, 2, 6, 1 << 63, 1<<63 - 1, math.MaxUint64 - 1, math.MaxUint64}
	m := make(api.Nat, 1+g.IntN(most))
	kind := g.IntN(3)
	for i := range m {
		switch kind {
		case 0:
			m[i] = g.Uint64()
		case 1:
			m[i] = edges[g.IntN(len(edges))]
		default:
			m[i] = g.Uint64() >> g.IntN(64) << g.IntN(64) * uint64(g.IntN(2))
		}
	}
	m[g.IntN(len(m))] |= 1 << g.IntN(64)
	return api.Dyad{M: api.Int{M: m}, E: g.IntN(2*64*most+1) - 64*most}
}
