package bits_test

import (
	"math"
	"math/big"
	"math/rand/v2"
	"strconv"
	"testing"

	"stepstone/api"
	"stepstone/bits"
)

// P23.2, P23.3: the chapter's examples.
func TestExamples(t *testing.T) {
	s := bits.New("\xa0")
	a, e := s.Bit()
	b, f := s.Bit()
	m, h := s.Number(2)
	if !a || b || text(bigOf(m)) != "2" || e != api.OK || f != api.OK || h != api.OK {
		t.Error(a, e, b, f, m, h)
	}
	s = bits.New("\xc0")
	if m, e = s.Below(api.Nat{3}); len(m) != 0 || e != api.OK || s.Read() != 4 {
		t.Error(m, e, s.Read())
	}
	s = bits.New("\x40")
	if a, e = s.Coin(fracOf(rat(1, 2))); !a || e != api.OK || s.Read() != 1 {
		t.Error(a, e, s.Read())
	}
	s = bits.New("\x80")
	if a, e = s.Coin(fracOf(rat(1, 3))); a || e != api.OK || s.Read() != 1 {
		t.Error(a, e, s.Read())
	}
}

// P23.1: a source that nothing was asked of has read nothing, and is not dry, also without a bit.
func TestNew(t *testing.T) {
	for _, text := range []string{"", "\x00", "\xff\x00\x80", repeated("a", 99999)} {
		s := bits.New(text)
		if s == nil || s.Read() != 0 || s.Dry() {
			t.Errorf("%d bytes: %v", len(text), s)
		}
	}
	if bits.New("a") == bits.New("a") {
		t.Error("two sources are one")
	}
}

// P23.2: Bit returns the highest bit of a byte first, of any bytes.
func TestBits(t *testing.T) {
	g := rand.New(rand.NewPCG(23, 1))
	for i := range 300 {
		text := anyScript(g, 20)
		if i < 256 {
			text = string([]byte{byte(i), byte(255 - i)})
		}
		p := pairOf(t, text)
		for range 8*len(text) + 3 {
			p.bit()
		}
	}
	p := pairOf(t, "\x93")
	want := []bool{true, false, false, true, false, false, true, true}
	for i, b := range want {
		if got, e := p.s.Bit(); got != b || e != api.OK || p.s.Read() != i+1 || p.s.Dry() {
			t.Error(i, got, e, p.s.Read(), p.s.Dry())
		}
	}
}

// P23.1: a source is dry once a bit is requested after the last one, not before; then all bits are read.
func TestDry(t *testing.T) {
	for _, c := range []struct {
		ask  func(s *bits.Source) api.Errno
		name string
	}{
		{func(s *bits.Source) api.Errno { _, e := s.Bit(); return e }, "Bit"},
		{func(s *bits.Source) api.Errno { _, e := s.Number(1); return e }, "Number 1"},
		{func(s *bits.Source) api.Errno { _, e := s.Number(100000); return e }, "Number 100000"},
		{func(s *bits.Source) api.Errno { _, e := s.Below(api.Nat{2}); return e }, "Below 2"},
		{func(s *bits.Source) api.Errno { _, e := s.Coin(fracOf(rat(1, 2))); return e }, "Coin 1/2"},
		{func(s *bits.Source) api.Errno { _, e := s.Decay(fracOf(rat(1, 2))); return e }, "Decay 1/2"},
	} {
		for _, text := range []string{"", "\x5a", "\xa5\x00\x81"} {
			s := bits.New(text)
			if _, e := s.Number(8 * len(text)); e != api.OK || s.Dry() || s.Read() != 8*len(text) {
				t.Error(c.name, e, s.Dry(), s.Read())
			}
			for range 3 {
				if e := c.ask(s); e != api.ErrDry || !s.Dry() || s.Read() != 8*len(text) {
					t.Error(c.name, text, e, s.Dry(), s.Read())
				}
			}
		}
	}
	s := bits.New("\xff\xff")
	s.Number(5)
	if _, e := s.Number(12); e != api.ErrDry || !s.Dry() || s.Read() != 16 {
		t.Error("a number of 12 bits out of 11", e, s.Read())
	}
	if _, e := s.Bit(); e != api.ErrDry {
		t.Error("a bit of a dry source", e)
	}
}

// P23.1: what reads no bit neither makes a source dry nor fails at its end.
func TestNoBit(t *testing.T) {
	for _, text := range []string{"", "\x00", "\xff\x12"} {
		p := pairOf(t, text)
		for range 3 {
			p.number(0)
			p.below(1)
			p.coin(0, 1)
			p.coin(-3, 2)
			p.coin(1, 1)
			p.coin(5, 4)
			p.decay(0, 1)
			p.decay(-1, 3)
			if p.s.Dry() {
				t.Errorf("%q: the source is dry", text)
			}
			p.number(8*len(text) - p.s.Read())
		}
	}
}

// P23.2: Number returns numbers of any number of bits, the first of which counts most.
func TestNumber(t *testing.T) {
	g := rand.New(rand.NewPCG(23, 2))
	for _, n := range []int{0, 1, 2, 7, 8, 9, 31, 32, 33, 63, 64, 65, 127, 128, 129, 1000, 4096, mostAsked - 1, mostAsked} {
		for _, before := range []int{0, 1, 3, 8, 13} {
			for _, size := range []int{(n+before)/8 + 1, (n + before + 7) / 8, (n + before) / 8} {
				text := make([]byte, size)
				for i := range text {
					text[i] = byte(g.Uint32())
				}
				p := pairOf(t, string(text))
				p.number(before)
				p.number(n)
				p.number(3)
			}
		}
	}
}

// P23.2: numbers of only 1s, of only 0s, and of one 1.
func TestNumberPlain(t *testing.T) {
	for _, n := range []int{1, 63, 64, 65, 128, 130} {
		for text, want := range map[string]*big.Int{
			repeated("1", n):              near(n, -1),
			repeated("0", n):              big.NewInt(0),
			"1" + repeated("0", n-1):      pow2(n - 1),
			repeated("0", n-1) + "1":      big.NewInt(1),
			repeated("0", n-1) + "1" + "": big.NewInt(1),
		} {
			if m, e := bits.New(script(text)).Number(n); e != api.OK || bigOf(m).Cmp(want) != 0 || !isNormal(m) {
				t.Error(text, m, e)
			}
		}
	}
}

// P23.2: Below reads as many bits as m minus 1 has, again and again until the number is below m.
func TestBelow(t *testing.T) {
	for _, c := range []struct {
		bits string
		m    int64
		want string
		read int
	}{
		{"", 1, "0", 0},
		{"11111111", 1, "0", 0},
		{"1", 2, "1", 1},
		{"0", 2, "0", 1},
		{"111110", 3, "2", 6},
		{"11000000", 3, "0", 4},
		{"11", 4, "3", 2},
		{"100", 5, "4", 3},
		{"101110111011", 5, "3", 12},
		{"1111", 16, "f", 4},
		{"01111", 17, "f", 5},
		{"1000110000", 17, "10", 10},
		{"1111" + "1110", 15, "e", 8},
	} {
		s := bits.New(script(c.bits))
		if m, e := s.Below(natOf(big.NewInt(c.m))); e != api.OK || text(bigOf(m)) != c.want || s.Read() != c.read || !isNormal(m) {
			t.Errorf("%s below %d: %v, %d, %d bits", c.bits, c.m, m, e, s.Read())
		}
	}
}

// P23.2: Below of numbers around powers of two, of several limbs, and of the longest ones.
func TestBelowGreat(t *testing.T) {
	g := rand.New(rand.NewPCG(23, 3))
	for _, n := range []int{1, 2, 8, 63, 64, 65, 128, 1000, mostBits - 1, mostBits} {
		for more := int64(-1); more <= 1; more++ {
			k := near(n, more)
			text := anyBytes(g, 3*(n+8)/8)
			ones := repeated("\xff", (n+7)/8) + text
			zeros := repeated("\x00", (n+7)/8) + text
			for _, script := range []string{text, ones, zeros} {
				p := pairOf(t, script)
				p.belowOf(natOf(k))
				p.belowOf(natOf(k))
				p.belowOf(append(natOf(k), 0, 0, 0))
			}
		}
	}
}

func anyBytes(g *rand.Rand, n int) string {
	out := make([]byte, n)
	for i := range out {
		out[i] = byte(g.Uint32())
	}
	return string(out)
}

// P23.2: limbs of 0 on top do not count, also beyond the limit, nor for how many bits are read.
func TestZerosOnTop(t *testing.T) {
	for _, zeros := range []int{1, 2, 2047, 2048, 5000} {
		p := pairOf(t, "\xc0\x80\xff\x01\x12\x34")
		p.belowOf(append(api.Nat{3}, make(api.Nat, zeros)...))
		p.belowOf(append(api.Nat{1}, make(api.Nat, zeros)...))
		p.belowOf(make(api.Nat, zeros))
		a := fracOf(rat(1, 3))
		a.N.M = append(a.N.M, make(api.Nat, zeros)...)
		a.D = append(a.D, make(api.Nat, zeros)...)
		p.coinOf(a)
		p.decayOf(a)
	}
}

// P23.1: Copy continues as the source would, and neither is changed by the other.
func TestCopy(t *testing.T) {
	g := rand.New(rand.NewPCG(23, 4))
	for range 2000 {
		p := pairOf(t, anyScript(g, 30))
		for range g.IntN(6) {
			p.any(g)
		}
		c := p.s.Copy()
		if c == nil || c == p.s || c.Read() != p.s.Read() || c.Dry() != p.s.Dry() {
			t.Fatalf("%s: the copy has read %d, dry %t", p.done, c.Read(), c.Dry())
		}
		q := &pair{t, c, &model{p.m.bits, p.m.at, p.m.dry}, p.done + " copied"}
		for range 10 {
			if g.IntN(2) == 0 {
				p.any(g)
			} else {
				q.any(g)
			}
		}
	}
}

// P23.1: copies of a new source, in the middle of a byte, at the end, and of a dry one.
func TestCopyPlaces(t *testing.T) {
	for _, c := range []struct {
		read int
		dry  bool
	}{{0, false}, {3, false}, {8, false}, {11, false}, {16, false}, {17, true}} {
		s := bits.New("\xa5\xc3")
		s.Number(c.read)
		k := s.Copy()
		s.Number(2)
		if k.Read() != min(c.read, 16) || k.Dry() != c.dry {
			t.Error(c.read, k.Read(), k.Dry())
		}
		m, e := k.Number(16 - min(c.read, 16))
		want := new(big.Int).And(big.NewInt(0xa5c3), near(16-min(c.read, 16), -1))
		if c.dry && (m != nil || e != api.ErrDry) || !c.dry && (e != api.OK || bigOf(m).Cmp(want) != 0) {
			t.Error(c.read, m, e)
		}
	}
}

// P23.1, P23.2, P23.3: what is none returns ErrNil, before any other error, and zero values.
func TestNone(t *testing.T) {
	for name, s := range map[string]*bits.Source{"nil": nil, "zero": {}, "new": new(bits.Source)} {
		if s.Read() != 0 || s.Dry() || s.Copy() != nil {
			t.Error(name, s.Read(), s.Dry(), s.Copy())
		}
		if b, e := s.Bit(); b || e != api.ErrNil {
			t.Error(name, b, e)
		}
		for _, n := range []int{0, 1, -1, 100001} {
			if m, e := s.Number(n); m != nil || e != api.ErrNil {
				t.Error(name, n, m, e)
			}
		}
		for _, k := range []api.Nat{nil, {0}, {1}, {2}, tooLong()} {
			if m, e := s.Below(k); m != nil || e != api.ErrNil {
				t.Error(name, len(k), m, e)
			}
		}
		for _, a := range []api.Frac{{}, fracOf(rat(1, 2)), fracOf(rat(2, 1)), fracOf(rat(-1, 1)), {D: tooLong()}} {
			if b, e := s.Coin(a); b || e != api.ErrNil {
				t.Error(name, b, e)
			}
			if b, e := s.Decay(a); b || e != api.ErrNil {
				t.Error(name, b, e)
			}
		}
	}
}

func tooLong() api.Nat { return natOf(pow2(mostBits)) }

// P23.2: ErrArg for what is not valid, also of a dry source; no bit is read, and nothing becomes dry.
func TestNotValid(t *testing.T) {
	for _, text := range []string{"", "\x5a", "\x00\xff"} {
		for _, s := range []*bits.Source{bits.New(text), dried(t, text)} {
			read, dry := s.Read(), s.Dry()
			for _, n := range []int{-1, math.MinInt, mostAsked + 1, math.MaxInt, -mostAsked, 1 << 32} {
				if m, e := s.Number(n); m != nil || e != api.ErrArg {
					t.Errorf("%q: Number %d: %v, %d", text, n, m, e)
				}
			}
			for _, k := range []api.Nat{nil, {}, {0}, {0, 0, 0}, make(api.Nat, 3000), tooLong(), append(tooLong(), 0, 0)} {
				if m, e := s.Below(k); m != nil || e != api.ErrArg {
					t.Errorf("%q: Below of %d limbs: %v, %d", text, len(k), m, e)
				}
			}
			for i, a := range notValid() {
				if b, e := s.Coin(a); b || e != api.ErrArg {
					t.Errorf("%q: Coin of %d: %t, %d", text, i, b, e)
				}
				if b, e := s.Decay(a); b || e != api.ErrArg {
					t.Errorf("%q: Decay of %d: %t, %d", text, i, b, e)
				}
			}
			if s.Read() != read || s.Dry() != dry {
				t.Errorf("%q: %d bits were read, dry %t", text, s.Read(), s.Dry())
			}
		}
	}
}

// notValid has also those that would be thrown without a bit, if they were valid.
func notValid() []api.Frac {
	two, none := api.Int{M: api.Nat{2}}, api.Int{}
	return []api.Frac{
		{},
		{N: two},
		{N: two, D: api.Nat{0}},
		{N: api.Int{Neg: true, M: api.Nat{2}}, D: make(api.Nat, 9)},
		{N: none, D: make(api.Nat, 3000)},
		{N: none, D: tooLong()},
		{N: two, D: tooLong()},
		{N: api.Int{M: tooLong()}, D: api.Nat{1}},
		{N: api.Int{Neg: true, M: tooLong()}, D: api.Nat{1}},
		{N: api.Int{M: tooLong()}, D: tooLong()},
		{N: api.Int{M: append(tooLong(), 0)}, D: api.Nat{3}},
	}
}

// P23.2, P23.3: each call of a dry source returns ErrDry and a zero value, also one that would read no bit.
func TestDryCalls(t *testing.T) {
	for _, text := range []string{"", "\x00", "\xff\xff\xff"} {
		s := dried(t, text)
		for _, s := range []*bits.Source{s, s.Copy(), s.Copy().Copy()} {
			if b, e := s.Bit(); b || e != api.ErrDry {
				t.Error(b, e)
			}
			for _, n := range []int{0, 1, 64, mostAsked} {
				if m, e := s.Number(n); m != nil || e != api.ErrDry {
					t.Error(n, m, e)
				}
			}
			for _, k := range []int64{1, 2, 3, 1000} {
				if m, e := s.Below(natOf(big.NewInt(k))); m != nil || e != api.ErrDry {
					t.Error(k, m, e)
				}
			}
			for _, x := range []*big.Rat{rat(-1, 1), rat(0, 1), rat(1, 2), rat(1, 1), rat(7, 2)} {
				if b, e := s.Coin(fracOf(x)); b || e != api.ErrDry {
					t.Error(x, b, e)
				}
				if b, e := s.Decay(fracOf(x)); b || e != api.ErrDry {
					t.Error(x, b, e)
				}
			}
			if s.Read() != 8*len(text) || !s.Dry() {
				t.Error(strconv.Quote(text), s.Read(), s.Dry())
			}
		}
	}
}

// P23.1 to P23.3: rows of calls of any sort, against the model.
func TestAny(t *testing.T) {
	g := rand.New(rand.NewPCG(23, 5))
	for range 20000 {
		p := pairOf(t, anyScript(g, 1+g.IntN(40)))
		for range g.IntN(30) {
			p.any(g)
		}
	}
}
