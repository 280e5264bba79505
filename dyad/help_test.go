package dyad_test

import (
	"encoding/binary"
	"math"
	"math/big"
	"math/rand/v2"
	"slices"
	"strconv"
	"testing"

	"stepstone/api"
)

const (
	ones    = math.MaxUint64
	top     = uint64(1) << 63
	maxBits = 64 * api.MaxLimbs
	far     = api.MaxExp
)

// exact is a dyadic number by the library's integers: odd, or 0 with e 0, and as great or as fine as may be.
type exact struct {
	m *big.Int
	e int
}

func exactly(m *big.Int, e int) exact {
	if m.Sign() == 0 {
		return exact{new(big.Int), 0}
	}
	n := m.TrailingZeroBits()
	return exact{new(big.Int).Rsh(m, n), e + int(n)}
}

func (x exact) isValid() bool {
	return x.m.BitLen() <= maxBits && -far <= x.e && x.e <= far
}

func (x exact) turned() exact { return exact{negative(x.m), x.e} }

// in is the integer that times 2^e is the number. It needs an e that is not above the number's own.
func (x exact) in(e int) *big.Int { return new(big.Int).Lsh(x.m, uint(x.e-e)) }

func (x exact) plus(y exact) exact {
	e := min(x.e, y.e)
	return exactly(new(big.Int).Add(x.in(e), y.in(e)), e)
}

func (x exact) times(y exact) exact {
	return exactly(new(big.Int).Mul(x.m, y.m), x.e+y.e)
}

func (x exact) compare(y exact) int {
	e := min(x.e, y.e)
	return x.in(e).Cmp(y.in(e))
}

// float is the same number as one of the library's, which rounds by itself.
func (x exact) float() *big.Float {
	f := new(big.Float).SetPrec(uint(max(1, x.m.BitLen()))).SetInt(x.m)
	return f.SetMantExp(f, x.e)
}

func ofFloat(f *big.Float) exact {
	if f.Sign() == 0 {
		return exactly(new(big.Int), 0)
	}
	bits := int(f.MinPrec())
	m, _ := new(big.Float).SetMantExp(f, bits-f.MantExp(nil)).Int(nil)
	return exactly(m, f.MantExp(nil)-bits)
}

func pow2(n int) *big.Int { return new(big.Int).Lsh(big.NewInt(1), uint(n)) }

func plus(n *big.Int, d int64) *big.Int { return new(big.Int).Add(n, big.NewInt(d)) }

func negative(n *big.Int) *big.Int { return new(big.Int).Neg(n) }

// allOnes is the number of n bits that are all 1.
func allOnes(n int) *big.Int { return plus(pow2(n), -1) }

func bigOf(a api.Int) *big.Int {
	bytes := make([]byte, 0, 8*len(a.M))
	for _, x := range slices.Backward(a.M) {
		bytes = binary.BigEndian.AppendUint64(bytes, x)
	}
	n := new(big.Int).SetBytes(bytes)
	if a.Neg {
		n.Neg(n)
	}
	return n
}

func intOf(n *big.Int) api.Int {
	a := api.Int{Neg: n.Sign() < 0, M: make(api.Nat, (n.BitLen()+63)/64)}
	bytes := n.FillBytes(make([]byte, 8*len(a.M)))
	for i := range a.M {
		a.M[len(a.M)-1-i] = binary.BigEndian.Uint64(bytes[8*i:])
	}
	return a
}

func valueOf(a api.Dyad) exact { return exactly(bigOf(a.M), a.E) }

// dyadOf is the number as it is written, not as it is normal.
func dyadOf(m *big.Int, e int) api.Dyad { return api.Dyad{M: intOf(m), E: e} }

func small(m int64, e int) api.Dyad { return dyadOf(big.NewInt(m), e) }

// turned is the number with the other sign, in the same memory.
func turned(a api.Dyad) api.Dyad { return api.Dyad{M: api.Int{Neg: !a.M.Neg, M: a.M.M}, E: a.E} }

// padded is the number with limbs on top that are 0.
func padded(a api.Dyad, n int) api.Dyad {
	return api.Dyad{M: api.Int{Neg: a.M.Neg, M: append(slices.Clone(a.M.M), make(api.Nat, n)...)}, E: a.E}
}

// zeros are ways of writing 0.
func zeros() []api.Dyad {
	var l []api.Dyad
	for _, m := range []api.Nat{nil, {}, {0}, {0, 0}, make(api.Nat, 2048), make(api.Nat, 2049), make(api.Nat, 20000), api.Nat{7, 7}[:0]} {
		for _, e := range []int{0, 1, -1, 64, -77, far, -far} {
			l = append(l, api.Dyad{M: api.Int{M: m}, E: e}, api.Dyad{M: api.Int{Neg: true, M: m}, E: e})
		}
	}
	return l
}

// notValid are numbers whose integer is too long, or whose exponent is too far, also where the normal number's is not.
func notValid() []api.Dyad {
	var l []api.Dyad
	tooLong := append(make(api.Nat, 2048), 1)
	for _, m := range []api.Nat{tooLong, append(slices.Clone(tooLong), 0, 0), slices.Repeat(api.Nat{ones}, 2049)} {
		for _, e := range []int{0, -5, far, -far, far + 1} {
			l = append(l, api.Dyad{M: api.Int{M: m}, E: e}, api.Dyad{M: api.Int{Neg: true, M: m}, E: e})
		}
	}
	for _, m := range []int64{1, -1, 2, 4, -8, 0, 1 << 40} {
		for _, e := range []int{far + 1, -far - 1, far + 2, -far - 40, math.MaxInt, math.MinInt, math.MaxInt - 1, math.MinInt + 1} {
			l = append(l, small(m, e))
		}
	}
	return append(l, api.Dyad{M: api.Int{Neg: true}, E: far + 1}, api.Dyad{M: api.Int{M: make(api.Nat, 5000)}, E: -far - 1}, dyadOf(pow2(maxBits-1), -far-maxBits), dyadOf(pow2(64), -far-1))
}

// tooFar are numbers that are valid, but not when they are normal.
func tooFar() []api.Dyad {
	return []api.Dyad{small(2, far), small(-2, far), small(12, far), small(4, far-1), dyadOf(pow2(64), far-63), padded(dyadOf(negative(pow2(100)), far), 3), dyadOf(pow2(maxBits-1), far), dyadOf(pow2(maxBits-1), far-maxBits+2)}
}

// someDyads are numbers of both signs: short ones, such as end where a limb does, even ones, those next to the limits.
func someDyads() []api.Dyad {
	var l []api.Dyad
	for i, m := range []*big.Int{
		big.NewInt(1), big.NewInt(2), big.NewInt(3), big.NewInt(5), big.NewInt(12), big.NewInt(45), big.NewInt(96), allOnes(63), pow2(63), allOnes(64), pow2(64), plus(pow2(64), 1),
		allOnes(65), new(big.Int).Lsh(allOnes(64), 64), plus(pow2(127), 1), pow2(128), new(big.Int).Lsh(big.NewInt(12345), 150), allOnes(1000),
	} {
		exponents := []int{0, 1, -1, -2, 3, 63, -64, 200, -900}
		for _, e := range []int{0, exponents[i%9], exponents[(4*i+2)%9]} {
			l = append(l, dyadOf(m, e), dyadOf(negative(m), e), padded(dyadOf(m, e), 1+i%3))
		}
	}
	return append(l, small(1, far), small(-3, far), small(1, -far), small(-3, -far), small(8, far-3), small(16, -far),
		dyadOf(allOnes(maxBits), 0), dyadOf(negative(allOnes(maxBits)), -7), dyadOf(pow2(maxBits-1), -9), dyadOf(plus(pow2(maxBits-1), 1), 2))
}

// anyDyad is a number of up to so many limbs, some of whose limbs may be 0, also on top and at the end.
func anyDyad(g *rand.Rand, most int) api.Dyad {
	edges := []uint64{0, 1, 2, 6, top - 1, top, ones - 1, ones}
	m := make(api.Nat, g.IntN(most+1))
	kind := g.IntN(3)
	for i := range m {
		switch kind {
		case 0:
			m[i] = g.Uint64()
		case 1:
			m[i] = edges[g.IntN(len(edges))]
		default:
			m[i] = g.Uint64() >> g.IntN(64) << g.IntN(64) * uint64(g.IntN(2))
		}
	}
	return api.Dyad{M: api.Int{Neg: g.IntN(2) == 0, M: m}, E: g.IntN(2*64*most+1) - 64*most}
}

// anyPairs calls for many pairs of numbers, among them often such of one magnitude, or next to each other, or of one exponent.
func anyPairs(seed uint64, count, most int, f func(a, b api.Dyad)) {
	g := rand.New(rand.NewPCG(5, seed))
	for range count {
		a, b := anyDyad(g, most), anyDyad(g, most)
		x := valueOf(a)
		switch g.IntN(4) {
		case 0:
			n := g.IntN(70)
			b = padded(dyadOf(x.in(x.e-n), x.e-n), g.IntN(2))
			b.M.Neg = g.IntN(2) == 0
		case 1:
			n := g.IntN(70)
			b = dyadOf(plus(x.in(x.e-n), int64(g.IntN(3)-1)), x.e-n)
		case 2:
			b.E = x.e
		}
		f(a, b)
	}
}

// isExact checks a result: that it is the number, normal, and that there was no error; or, if the number is not valid, that there was.
func isExact(t *testing.T, want exact, got api.Dyad, e api.Errno, what string, of ...api.Dyad) {
	t.Helper()
	if !want.isValid() {
		fails(t, api.ErrBig, got, e, what, of...)
		return
	}
	n := len(got.M.M)
	switch x := valueOf(got); {
	case e != api.OK:
		t.Errorf("%s of %s: error %d", what, shown(of...), e)
	case x.m.Cmp(want.m) != 0 || x.e != want.e:
		t.Errorf("%s of %s = %s, want %s", what, shown(of...), shown(got), shown(dyadOf(want.m, want.e)))
	case n > 0 && got.M.M[n-1] == 0, n == 0 && got.M.Neg, got.E != x.e:
		t.Errorf("%s of %s: not normal: Neg %v, %d limbs, E %d", what, shown(of...), got.M.Neg, n, got.E)
	}
}

// fails checks that there is that error, and nothing else.
func fails(t *testing.T, want api.Errno, got api.Dyad, e api.Errno, what string, of ...api.Dyad) {
	t.Helper()
	if e != want || got.M.Neg || len(got.M.M) != 0 || got.E != 0 {
		t.Errorf("%s of %s: error %d, Neg %v, %d limbs and E %d, want error %d and 0", what, shown(of...), e, got.M.Neg, len(got.M.M), got.E, want)
	}
}

// shown is numbers as far as a message has room for them.
func shown(l ...api.Dyad) string {
	s := ""
	for _, a := range l {
		text := bigOf(a.M).Text(16)
		if len(text) > 100 {
			text = text[:40] + ".." + text[len(text)-40:]
		}
		s += " " + text + "p" + strconv.Itoa(a.E)
	}
	return "(" + s + " in hexadecimal )"
}
