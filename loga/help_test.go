package loga_test

import (
	"encoding/binary"
	"math"
	"math/big"
	"math/rand/v2"
	"slices"
	"strconv"
	"strings"
	"testing"

	"stepstone/api"
)

const (
	far     = api.MaxExp
	fine    = api.MaxFine
	maxBits = 64 * api.MaxLimbs
	fewBits = 64 * api.MaxFineLimbs
)

func directions() []bool { return []bool{false, true} }

func pow2(n int) *big.Int { return new(big.Int).Lsh(big.NewInt(1), uint(n)) }

func plus(n *big.Int, d int64) *big.Int { return new(big.Int).Add(n, big.NewInt(d)) }

func negative(n *big.Int) *big.Int { return new(big.Int).Neg(n) }

// allOnes is the number of n bits that are all 1.
func allOnes(n int) *big.Int { return plus(pow2(n), -1) }

func natOf(n *big.Int) api.Nat {
	m := make(api.Nat, (n.BitLen()+63)/64)
	bytes := n.FillBytes(make([]byte, 8*len(m)))
	for i := range m {
		m[len(m)-1-i] = binary.BigEndian.Uint64(bytes[8*i:])
	}
	return m
}

func bigOf(a api.Int) *big.Int {
	var bytes []byte
	for _, limb := range slices.Backward(a.M) {
		bytes = binary.BigEndian.AppendUint64(bytes, limb)
	}
	n := new(big.Int).SetBytes(bytes)
	if a.Neg {
		n.Neg(n)
	}
	return n
}

// written is a number as it is written, not as it is normal.
func written(m *big.Int, e int) api.Dyad {
	return api.Dyad{M: api.Int{Neg: m.Sign() < 0, M: natOf(m)}, E: e}
}

func small(m int64, e int) api.Dyad { return written(big.NewInt(m), e) }

// odd is a normal number, which may be out of the bounds.
func odd(m *big.Int, e int) api.Dyad {
	if m.Sign() == 0 {
		return api.Dyad{}
	}
	n := m.TrailingZeroBits()
	return written(new(big.Int).Rsh(m, n), e+int(n))
}

// padded is the number with limbs on top that are 0.
func padded(a api.Dyad, n int) api.Dyad {
	return api.Dyad{M: api.Int{Neg: a.M.Neg, M: append(slices.Clone(a.M.M), make(api.Nat, n)...)}, E: a.E}
}

// turned is 0 minus the number.
func turned(a api.Dyad) api.Dyad {
	return api.Dyad{M: api.Int{Neg: !a.M.Neg && len(a.M.M) > 0, M: slices.Clone(a.M.M)}, E: a.E}
}

// bothSigns are the numbers, each followed by 0 minus it.
func bothSigns(l ...api.Dyad) []api.Dyad {
	var out []api.Dyad
	for _, a := range l {
		out = append(out, a, turned(a))
	}
	return out
}

// num reads an integer, or an integer, p and an exponent; what is even is made odd.
func num(s string) api.Dyad {
	digits, exponent, is := strings.Cut(s, "p")
	m, ok := new(big.Int).SetString(digits, 10)
	e, err := strconv.Atoi(exponent)
	if !ok || is != (err == nil) {
		panic(s + " is no number")
	}
	return odd(m, e)
}

// ratOf is what a number is worth. It needs one whose exponent is not far away.
func ratOf(a api.Dyad) *big.Rat {
	m := bigOf(a.M)
	if a.E >= 0 {
		return new(big.Rat).SetInt(m.Lsh(m, uint(a.E)))
	}
	return new(big.Rat).SetFrac(m, pow2(-a.E))
}

func some(lo, hi api.Dyad) api.Ivl { return api.Ivl{Kind: api.IvSome, Lo: lo, Hi: hi} }

func unknown() api.Ivl { return api.Ivl{} }

func undef() api.Ivl { return api.Ivl{Kind: api.IvUndef} }

// known reads both bounds, or the one number that both are.
func known(s string) api.Ivl {
	lo, hi, ok := strings.Cut(s, " ")
	if !ok {
		hi = lo
	}
	return some(num(lo), num(hi))
}

func sameNumber(a, b api.Dyad) bool {
	return a.E == b.E && a.M.Neg == b.M.Neg && slices.Equal(a.M.M, b.M.M)
}

// same tells whether intervals are, to the last limb, written in one way.
func same(a, b api.Ivl) bool {
	return a.Kind == b.Kind && sameNumber(a.Lo, b.Lo) && sameNumber(a.Hi, b.Hi)
}

// shown is numbers as far as a message has room for them.
func shown(l ...api.Dyad) string {
	var out []string
	for _, a := range l {
		text := bigOf(a.M).Text(16)
		if len(text) > 80 {
			text = text[:35] + ".." + text[len(text)-35:]
		}
		out = append(out, "0x"+text+"p"+strconv.Itoa(a.E)+" in "+strconv.Itoa(len(a.M.M))+" limbs")
	}
	return "(" + strings.Join(out, "; ") + ")"
}

func shownIvl(a api.Ivl) string { return "kind " + strconv.Itoa(int(a.Kind)) + " " + shown(a.Lo, a.Hi) }

// is checks that the result is that number, to the last limb, and that there was no error.
func is(t *testing.T, want, got api.Dyad, e api.Errno, what string, a api.Dyad, p int) {
	t.Helper()
	if e != api.OK || !sameNumber(want, got) {
		t.Errorf("%s of %s to %d bits = %s, error %d, want %s", what, shown(a), p, shown(got), e, shown(want))
	}
}

// fails checks that there is that error, and nothing else.
func fails(t *testing.T, want api.Errno, got api.Dyad, e api.Errno, what string, a api.Dyad, p int) {
	t.Helper()
	if e != want || got.M.Neg || len(got.M.M) != 0 || got.E != 0 {
		t.Errorf("%s of %s to %d bits = %s, error %d, want error %d and 0", what, shown(a), p, shown(got), e, want)
	}
}

func isIvl(t *testing.T, want, got api.Ivl, a api.Ivl, p int) {
	t.Helper()
	if !same(want, got) {
		t.Errorf("Of of %s to %d bits = %s, want %s", shownIvl(a), p, shownIvl(got), shownIvl(want))
	}
}

// zeros are ways of writing 0.
func zeros() []api.Dyad {
	var l []api.Dyad
	for _, m := range []api.Nat{nil, {}, {0}, {0, 0}, make(api.Nat, 64), make(api.Nat, 65), make(api.Nat, 2048), make(api.Nat, 2049), make(api.Nat, 20000), api.Nat{7, 7}[:0]} {
		for _, e := range []int{0, 1, -1, 2, 64, -77, fine, -fine, fine + 1, -fine - 1, far - 1, far, 1 - far, -far} {
			l = append(l, api.Dyad{M: api.Int{M: m}, E: e}, api.Dyad{M: api.Int{Neg: true, M: m}, E: e})
		}
	}
	return l
}

// notValid are numbers whose integer is too long, or whose exponent is too far, also where the normal number's is not.
func notValid() []api.Dyad {
	var l []api.Dyad
	tooLong := append(make(api.Nat, api.MaxLimbs), 1)
	for _, m := range []api.Nat{tooLong, append(slices.Clone(tooLong), 0, 0), slices.Repeat(api.Nat{math.MaxUint64}, api.MaxLimbs+1)} {
		for _, e := range []int{0, -5, -maxBits, far, -far, far + 1} {
			l = append(l, api.Dyad{M: api.Int{M: m}, E: e}, api.Dyad{M: api.Int{Neg: true, M: m}, E: e})
		}
	}
	for _, m := range []int64{1, -1, 2, 4, -8, 0, 9, 1 << 40} {
		for _, e := range []int{far + 1, far + 2, -far - 1, -far - 2, -far - 40, math.MaxInt, math.MinInt, math.MaxInt - 1, math.MinInt + 1} {
			l = append(l, small(m, e))
		}
	}
	return append(l, api.Dyad{M: api.Int{Neg: true}, E: far + 1}, api.Dyad{M: api.Int{M: make(api.Nat, 5000)}, E: -far - 1}, written(pow2(maxBits-1), -far-maxBits), written(pow2(64), -far-1), written(pow2(64), -far-64))
}

// notFine are valid numbers of too many limbs, or of an exponent too far away; some are valid only as they are written.
func notFine() []api.Dyad {
	var l []api.Dyad
	for _, n := range []int{fewBits + 1, fewBits + 2, fewBits + 64, 2 * fewBits, maxBits - 1, maxBits} {
		for _, e := range []int{0, -n, -n - 10, 1 - fine, -fine, fine} {
			l = append(l, written(allOnes(n), e), written(plus(pow2(n-1), 1), e))
		}
	}
	for _, e := range []int{fine + 1, fine + 2, 2 * fine, far - 1, far, -fine - 1, -fine - 2, -2 * fine, 1 - far, -far} {
		l = append(l, small(1, e), small(3, e), small(1<<40+1, e), written(allOnes(64), e), written(allOnes(fewBits), e), written(allOnes(fewBits+1), e))
	}
	for _, e := range []int{fine, fine - 1, fine - 60, -fine - 70} {
		l = append(l, written(pow2(fine+1-e), e))
	}
	l = append(l, small(2, -fine-2), small(12, -fine-3), written(pow2(64), -fine-65), padded(small(2, fine), 3), small(2, far), small(12, far-1), written(pow2(maxBits-1), far))
	return bothSigns(l...)
}

// finePrecisions, coarsePrecisions and noPrecisions are this layer's, those of layer 7 alone, and none.
func finePrecisions() []int { return []int{1, 2, 64, fine - 1, fine} }

func coarsePrecisions() []int {
	return []int{fine + 1, fine + 2, 50000, api.MaxPrec - 1, api.MaxPrec}
}

func noPrecisions() []int {
	return []int{0, -1, -2, -fine, api.MaxPrec + 1, api.MaxPrec + 2, math.MaxInt, math.MinInt}
}

func allPrecisions() []int {
	return slices.Concat(finePrecisions(), coarsePrecisions(), noPrecisions())
}

// someFine are fine numbers above 0 of all sizes, many just so: the greatest, the least, of the most limbs, of the exponents farthest away.
func someFine() []api.Dyad {
	l := []api.Dyad{small(1, 0), small(3, 7), small(5, -3), small(1<<40+1, -900), aboveOne(), belowOne()}
	for _, e := range []int{fine, fine - 1, 0, 1 - fine, -fine} {
		l = append(l, small(1, e), small(3, e), written(allOnes(64), e), written(allOnes(fewBits-64), e), written(plus(pow2(fewBits-64), 1), e), written(allOnes(fewBits), e), written(plus(pow2(fewBits-1), 1), e))
	}
	return l
}

// aboveOne and belowOne are the fine numbers next to 1.
func aboveOne() api.Dyad { return written(plus(pow2(fine), 1), -fine) }

func belowOne() api.Dyad { return written(allOnes(fine), -fine) }

// ones are ways of writing 1.
func ones() []api.Dyad {
	l := []api.Dyad{small(1, 0), padded(small(1, 0), 1), padded(small(1, 0), 20000)}
	for _, n := range []int{1, 2, 63, 64, 65, fine, fine + 1, fewBits - 1, fewBits, maxBits - 1} {
		l = append(l, written(pow2(n), -n))
	}
	return append(l, padded(written(pow2(100), -100), 70))
}

// notAboveZero are fine numbers that are not above 0.
func notAboveZero() []api.Dyad {
	var l []api.Dyad
	for _, a := range append(someFine(), ones()...) {
		l = append(l, turned(a))
	}
	return append(l, zeros()...)
}

// anyDyad is a number above 0, of up to so many bits, and of a magnitude below 2^top or somewhat less.
func anyDyad(g *rand.Rand, most, top int) api.Dyad {
	n := 1 + g.IntN(most)
	m := new(big.Int).SetBit(new(big.Int), n-1, 1)
	switch g.IntN(3) {
	case 0:
		for i := range n {
			m.SetBit(m, i, m.Bit(i)|g.Uint()&1)
		}
	case 1:
		m = allOnes(n)
		m.SetBit(m, g.IntN(n), 0)
	default:
		m.SetBit(m, g.IntN(n), 1)
	}
	if m.Sign() == 0 {
		m = big.NewInt(1)
	}
	return odd(m, max(-fine, top-g.IntN(4)-n))
}

// nearOne is a number other than 1 whose distance from 1 is of up to so many bits, and below 2^-near. It needs room for these behind the point.
func nearOne(g *rand.Rand, most, near int) api.Dyad {
	d := anyDyad(g, most, -near)
	one := pow2(-d.E)
	if g.IntN(2) == 0 {
		return odd(new(big.Int).Add(one, bigOf(d.M)), d.E)
	}
	return odd(new(big.Int).Sub(one, bigOf(d.M)), d.E)
}

// shifted is the same number with n bits behind it that are 0.
func shifted(a api.Dyad, n int) api.Dyad {
	return written(new(big.Int).Lsh(bigOf(a.M), uint(n)), a.E-n)
}
