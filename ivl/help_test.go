package ivl_test

import (
	"encoding/binary"
	"math"
	"math/big"
	"math/rand/v2"
	"slices"
	"strconv"
	"strings"
	"testing"

	"stepstone/api"
	"stepstone/dyad"
)

const (
	far     = api.MaxExp
	maxBits = 64 * api.MaxLimbs
)

func pow2(n int) *big.Int { return new(big.Int).Lsh(big.NewInt(1), uint(n)) }

func plus(n *big.Int, d int64) *big.Int { return new(big.Int).Add(n, big.NewInt(d)) }

// allOnes is the number of n bits that are all 1.
func allOnes(n int) *big.Int { return plus(pow2(n), -1) }

func natOf(n *big.Int) api.Nat {
	m := make(api.Nat, (n.BitLen()+63)/64)
	bytes := n.FillBytes(make([]byte, 8*len(m)))
	for i := range m {
		m[len(m)-1-i] = binary.BigEndian.Uint64(bytes[8*i:])
	}
	return m
}

func bigOf(a api.Int) *big.Int {
	var bytes []byte
	for _, limb := range slices.Backward(a.M) {
		bytes = binary.BigEndian.AppendUint64(bytes, limb)
	}
	n := new(big.Int).SetBytes(bytes)
	if a.Neg {
		n.Neg(n)
	}
	return n
}

// written is a number as it is written, not as it is normal.
func written(m *big.Int, e int) api.Dyad {
	return api.Dyad{M: api.Int{Neg: m.Sign() < 0, M: natOf(m)}, E: e}
}

func small(m int64, e int) api.Dyad { return written(big.NewInt(m), e) }

// odd is a normal number, which may be out of the bounds.
func odd(m *big.Int, e int) api.Dyad {
	if m.Sign() == 0 {
		return api.Dyad{}
	}
	n := m.TrailingZeroBits()
	return written(new(big.Int).Rsh(m, n), e+int(n))
}

// num reads an integer, or an integer, p and an exponent; what is even is made odd.
func num(s string) api.Dyad {
	digits, exponent, is := strings.Cut(s, "p")
	m, ok := new(big.Int).SetString(digits, 10)
	e, err := strconv.Atoi(exponent)
	if !ok || is != (err == nil) {
		panic(s + " is no number")
	}
	return odd(m, e)
}

func some(lo, hi api.Dyad) api.Ivl { return api.Ivl{Kind: api.IvSome, Lo: lo, Hi: hi} }

func unknown() api.Ivl { return api.Ivl{} }

func undef() api.Ivl { return api.Ivl{Kind: api.IvUndef} }

// known reads both bounds; ? is an unknown one, and ! one that is not defined.
func known(s string) api.Ivl {
	lo, hi, ok := strings.Cut(s, " ")
	switch {
	case s == "?":
		return unknown()
	case s == "!":
		return undef()
	case !ok:
		hi = lo
	}
	return some(num(lo), num(hi))
}

func knowns(l ...string) []api.Ivl {
	var out []api.Ivl
	for _, s := range l {
		out = append(out, known(s))
	}
	return out
}

func shownNumber(a api.Dyad) string {
	text := bigOf(a.M).String()
	if len(text) > 60 {
		text = text[:25] + ".." + text[len(text)-25:]
	}
	return text + "p" + strconv.Itoa(a.E)
}

// shown is intervals as far as a message has room for them.
func shown(l ...api.Ivl) string {
	var out []string
	for _, a := range l {
		out = append(out, "kind "+strconv.Itoa(int(a.Kind))+" from "+shownNumber(a.Lo)+" to "+shownNumber(a.Hi))
	}
	return "(" + strings.Join(out, "; ") + ")"
}

func sameNumber(a, b api.Dyad) bool {
	return a.E == b.E && a.M.Neg == b.M.Neg && slices.Equal(a.M.M, b.M.M)
}

// same tells whether intervals are, to the last limb, written in one way.
func same(a, b api.Ivl) bool {
	return a.Kind == b.Kind && sameNumber(a.Lo, b.Lo) && sameNumber(a.Hi, b.Hi)
}

func is(t *testing.T, want, got api.Ivl, what string, of ...api.Ivl) {
	t.Helper()
	if !same(want, got) {
		t.Errorf("%s of %s = %s, want %s", what, shown(of...), shown(got), shown(want))
	}
}

// ordinary are intervals of all kinds: below 0, above 0, with 0 inside, at an end, from 0 to 0, of one number alone; short and long, wide and narrow.
func ordinary() []api.Ivl {
	l := knowns("-3 -1", "-5p-2 -1p-9", "-7 -7", "-1p200 -1p-200", "1 2", "3 4", "3 5", "1p-70 9", "6 6", "5p-1 11p-2", "1p300 3p300", "-1 2", "-2 1", "-1 1", "-9p-9 1p60", "-1p-60 3", "0 1", "0 12p-3", "0 1p-100", "-1 0", "-21p5 0", "-1p-90 0", "0 0", "1 1", "-1 -1", "9 9", "45p-3 45p-3", "-45 45")
	for _, n := range []int{63, 64, 65, 130} {
		l = append(l, some(odd(pow2(n), 0), odd(plus(pow2(n), 1), 0)), some(odd(new(big.Int).Neg(allOnes(n)), -n), odd(allOnes(n), -n-1)), some(odd(allOnes(n), 7), odd(allOnes(n), 7)), some(odd(new(big.Int).Neg(plus(pow2(n), 1)), -9), odd(new(big.Int).Neg(allOnes(n)), -9)))
	}
	return l
}

// extreme are intervals whose bounds have 2048 limbs, or exponents at the bounds.
func extreme() []api.Ivl {
	full, long := allOnes(maxBits), plus(pow2(maxBits-1), 1)
	l := []api.Ivl{some(odd(full, 0), odd(full, 0)), some(odd(new(big.Int).Neg(full), -5), odd(long, -5)), some(odd(long, -maxBits), small(1, 0)), some(small(-1, 2), odd(long, -maxBits)), some(api.Dyad{}, odd(full, -far)), some(small(3, 0), odd(full, far)), some(odd(allOnes(maxBits/2), 0), odd(plus(pow2(maxBits/2), 1), 0)), some(odd(new(big.Int).Neg(allOnes(maxBits/2+1)), -maxBits/2), small(3, 0)), some(small(5, 0), odd(allOnes(maxBits-3), 0))}
	for _, e := range []int{far, far - 1, far / 2, far/2 + 1, maxBits, maxBits / 2} {
		l = append(l, some(small(1, e), small(3, e)), some(small(-1, e), small(1, e)), some(small(-3, e), small(-1, -e)), some(small(-1, -e), small(1, -e)), some(small(1, -e), small(1, 0)), some(api.Dyad{}, small(1, -e)), some(small(-7, e), api.Dyad{}), some(small(3, -e), small(3, -e)))
	}
	return l
}

// notValid are intervals of other kinds, with bounds in the wrong order, not normal, not valid, or where there are to be none.
func notValid() []api.Ivl {
	one, two, zero := small(1, 0), small(1, 1), api.Dyad{}
	var l []api.Ivl
	for _, kind := range []uint8{3, 4, 5, 127, 128, 129, 254, 255} {
		l = append(l, api.Ivl{Kind: kind}, api.Ivl{Kind: kind, Lo: one, Hi: two}, api.Ivl{Kind: kind, Lo: one, Hi: one})
	}
	for _, s := range []string{"2 1", "1 -1", "-1 -2", "0 -1", "1 0", "0 -1p-200", "1p-200 0", "9p-3 1", "1p1048576 1p-1048576", "-1p-1048576 -1p1048576"} {
		l = append(l, known(s))
	}
	l = append(l, some(odd(plus(pow2(200), 1), 0), odd(pow2(200), 0)))
	for _, x := range notNormal() {
		l = append(l, some(x, x), some(x, small(1, far)), some(small(-1, far), x), some(zero, x), some(x, zero))
	}
	for _, x := range append(notNormal(), one, small(-3, 5), small(1, -far)) {
		for _, kind := range []uint8{api.IvUnknown, api.IvUndef} {
			l = append(l, api.Ivl{Kind: kind, Lo: x, Hi: x}, api.Ivl{Kind: kind, Lo: x}, api.Ivl{Kind: kind, Hi: x})
		}
	}
	return l
}

// notNormal are numbers that are valid, but could be written otherwise, or that are not valid at all.
func notNormal() []api.Dyad {
	minus := api.Int{Neg: true}
	long := append(make(api.Nat, api.MaxLimbs), 1)
	long[0] = 1
	return []api.Dyad{
		small(2, 0), small(-2, 0), small(6, -1), small(-12, 9), small(2, far), written(pow2(64), 0), written(pow2(64), -64), written(pow2(maxBits-1), 0),
		{M: api.Int{M: api.Nat{1, 0}}}, {M: api.Int{Neg: true, M: api.Nat{5, 0, 0}}, E: 3}, {M: api.Int{M: append(api.Nat{3}, make(api.Nat, 4000)...)}},
		{M: minus}, {E: 1}, {E: -1}, {E: far}, {M: minus, E: 2}, {M: api.Int{M: api.Nat{0}}}, {M: api.Int{M: api.Nat{0, 0}}}, {M: api.Int{Neg: true, M: api.Nat{0}}}, {M: api.Int{M: make(api.Nat, 3000)}},
		small(1, far+1), small(-1, far+1), small(1, -far-1), small(-1, -far-1), small(3, math.MaxInt), small(-3, math.MinInt), {E: far + 1}, {E: -far - 1}, {E: math.MinInt},
		{M: api.Int{M: long}}, {M: api.Int{Neg: true, M: long}, E: -far}, written(plus(pow2(maxBits), 1), -maxBits), {M: api.Int{M: slices.Repeat(api.Nat{math.MaxUint64}, 2049)}}, {M: api.Int{M: append(slices.Clone(long), 0)}},
	}
}

// anyNumber is normal, of up to three limbs; now and then of very few bits, or 0.
func anyNumber(g *rand.Rand) api.Dyad {
	m := make([]byte, 1+g.IntN(24))
	for i := range m {
		m[i] = byte(g.Uint32())
	}
	n := new(big.Int).SetBytes(m)
	switch g.IntN(5) {
	case 0:
		n = big.NewInt(g.Int64N(5))
	case 1:
		n = plus(pow2(1+g.IntN(100)), g.Int64N(3)-1)
	}
	if g.IntN(2) == 0 {
		n.Neg(n)
	}
	return odd(n, g.IntN(200)-100)
}

// anyKnown is an interval whose bounds are often near to each other, of one magnitude, or 0.
func anyKnown(g *rand.Rand) api.Ivl {
	lo, hi := anyNumber(g), anyNumber(g)
	switch g.IntN(6) {
	case 0:
		hi = lo
	case 1:
		hi = odd(plus(bigOf(lo.M), g.Int64N(5)-2), lo.E)
	case 2:
		hi, _ = dyad.Neg(lo)
	case 3:
		hi = api.Dyad{}
	}
	if c, _ := dyad.Cmp(lo, hi); c > 0 {
		lo, hi = hi, lo
	}
	return some(lo, hi)
}
