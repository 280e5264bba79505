package bits_test

import (
	"math/big"
	"math/rand/v2"
	"strconv"
	"testing"

	"stepstone/api"
	"stepstone/bits"
)

// pair is a source and a model of it, of which the same is asked.
type pair struct {
	t    *testing.T
	s    *bits.Source
	m    *model
	done string
}

func pairOf(t *testing.T, text string) *pair {
	return &pair{t: t, s: bits.New(text), m: modelOf(text), done: strconv.Quote(text)}
}

// holds asks whether both have told the same, and have read as much.
func (p *pair) holds(call string, got, want string, e, f api.Errno) {
	p.t.Helper()
	p.done += " " + call
	if got != want || e != f {
		p.t.Fatalf("%s: %s, %d, want %s, %d", p.done, got, e, want, f)
	}
	read := p.m.at
	if p.s.Read() != read || p.s.Dry() != p.m.dry {
		p.t.Fatalf("%s: %d bits, dry %t, want %d, %t", p.done, p.s.Read(), p.s.Dry(), read, p.m.dry)
	}
}

func (p *pair) bit() {
	p.t.Helper()
	got, e := p.s.Bit()
	want, f := calls(p.m, true, func() bool { return p.m.bit() == 1 })
	p.holds("Bit", strconv.FormatBool(got), strconv.FormatBool(want), e, f)
}

func text(n *big.Int) string {
	if n == nil {
		return ""
	}
	return n.Text(16)
}

// told is what a call returned beside e: nothing at all if that is an error.
func (p *pair) told(m api.Nat, e api.Errno) string {
	if e != api.OK && m == nil {
		return ""
	}
	if !isNormal(m) {
		p.t.Errorf("%s: %v is not normal", p.done, m)
	}
	return text(bigOf(m))
}

func (p *pair) number(n int) {
	p.t.Helper()
	got, e := p.s.Number(n)
	want, f := calls(p.m, 0 <= n && n <= mostAsked, func() *big.Int { return p.m.number(n) })
	p.holds("Number "+strconv.Itoa(n), p.told(got, e), text(want), e, f)
}

func (p *pair) belowOf(m api.Nat) {
	p.t.Helper()
	k := bigOf(m)
	got, e := p.s.Below(m)
	want, f := calls(p.m, 0 < k.BitLen() && k.BitLen() <= mostBits, func() *big.Int { return p.m.below(k) })
	p.holds("Below "+text(k), p.told(got, e), text(want), e, f)
}

func (p *pair) below(m int64) {
	p.t.Helper()
	p.belowOf(natOf(big.NewInt(m)))
}

// valid is the number, or nil for what is none.
func valid(a api.Frac) *big.Rat {
	n, d := bigOf(a.N.M), bigOf(a.D)
	if d.BitLen() == 0 || d.BitLen() > mostBits || n.BitLen() > mostBits {
		return nil
	}
	if a.N.Neg {
		n.Neg(n)
	}
	return ratio(n, d)
}

func (p *pair) coinOf(a api.Frac) {
	p.t.Helper()
	x := valid(a)
	got, e := p.s.Coin(a)
	want, f := calls(p.m, x != nil, func() bool { return p.m.coin(x) })
	p.holds("Coin "+shownFrac(a), strconv.FormatBool(got), strconv.FormatBool(want), e, f)
}

func (p *pair) decayOf(a api.Frac) {
	p.t.Helper()
	x := valid(a)
	got, e := p.s.Decay(a)
	want, f := calls(p.m, x != nil, func() bool { return p.m.decay(x) })
	p.holds("Decay "+shownFrac(a), strconv.FormatBool(got), strconv.FormatBool(want), e, f)
}

func (p *pair) coin(n, d int64)  { p.t.Helper(); p.coinOf(fracOf(rat(n, d))) }
func (p *pair) decay(n, d int64) { p.t.Helper(); p.decayOf(fracOf(rat(n, d))) }

func shownFrac(a api.Frac) string {
	sign := ""
	if a.N.Neg {
		sign = "-"
	}
	return sign + text(bigOf(a.N.M)) + "/" + text(bigOf(a.D))
}

// any asks a call of any sort, now and then one that is refused.
func (p *pair) any(g *rand.Rand) {
	p.t.Helper()
	switch g.IntN(12) {
	case 0, 1:
		p.bit()
	case 2, 3:
		p.number(anyCount(g))
	case 4, 5, 6:
		p.belowOf(anyNat(g))
	case 7, 8:
		p.coinOf(anyFrac(g))
	case 9, 10:
		p.decayOf(anyFrac(g))
	default:
		p.copied(g)
	}
}

// copied goes on by a copy; what is asked of the other one meanwhile must not matter.
func (p *pair) copied(g *rand.Rand) {
	other := p.s
	p.s = other.Copy()
	p.done += " Copy"
	for range g.IntN(3) {
		other.Bit()
	}
}

func anyCount(g *rand.Rand) int {
	switch g.IntN(12) {
	case 0:
		return -1 - g.IntN(3)
	case 1:
		return mostAsked + g.IntN(2)
	case 2:
		return 60 + g.IntN(10)
	}
	return g.IntN(12)
}

func anyNat(g *rand.Rand) api.Nat {
	var m api.Nat
	switch g.IntN(10) {
	case 0:
		m = natOf(near(g.IntN(70), int64(g.IntN(3))-1))
	case 1:
		m = make(api.Nat, g.IntN(4))
		for i := range m {
			m[i] = g.Uint64()
		}
	case 2:
		m = natOf(near(g.IntN(9), int64(g.IntN(3))-1))
	default:
		m = natOf(big.NewInt(int64(g.IntN(40))))
	}
	return append(m, make(api.Nat, g.IntN(2)*g.IntN(3))...)
}

func anyFrac(g *rand.Rand) api.Frac {
	d := 1 + g.Int64N(30)
	x := rat(g.Int64N(2*d+3)-1, d)
	switch g.IntN(12) {
	case 0:
		return timesOf(x, big.NewInt(0))
	case 1:
		x = rat(g.Int64N(50)-2, 1+g.Int64N(9))
	case 2:
		x = ratio(natInt(g, 130), natInt(g, 130))
	case 3:
		x = ratio(natInt(g, 20), pow2(g.IntN(24)))
	}
	return timesOf(x, big.NewInt(1+g.Int64N(2)*g.Int64N(7)))
}

// natInt is a number above 0 of up to n bits.
func natInt(g *rand.Rand, n int) *big.Int {
	m := new(big.Int)
	for i := range 1 + g.IntN(n) {
		m.SetBit(m, i, uint(g.IntN(2)))
	}
	if m.Sign() == 0 {
		return big.NewInt(1)
	}
	return m
}
