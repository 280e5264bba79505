package bits_test

import (
	"math/big"
	"math/rand/v2"
	"testing"

	"stepstone/api"
	"stepstone/bits"
)

// P23.3: coins bit by bit: the first bit that is another one than the digit decides.
func TestCoin(t *testing.T) {
	for _, c := range []struct {
		bits string
		n, d int64
		want bool
		read int
		e    api.Errno
	}{
		{"", 1, 1, true, 0, api.OK},
		{"", 9, 8, true, 0, api.OK},
		{"", 0, 1, false, 0, api.OK},
		{"", -1, 2, false, 0, api.OK},
		{"", -9, 1, false, 0, api.OK},
		{"00000000", 1, 2, true, 1, api.OK},
		{"11000000", 1, 2, false, 2, api.OK},
		{"10000001", 1, 2, false, 8, api.OK},
		{"10000000", 1, 2, false, 8, api.ErrDry},
		{"00000000", 1, 4, true, 2, api.OK},
		{"01000000", 1, 4, false, 8, api.ErrDry},
		{"01100000", 1, 4, false, 3, api.OK},
		{"10100000", 3, 4, true, 2, api.OK},
		{"11100000", 3, 4, false, 3, api.OK},
		{"01011000", 1, 3, false, 5, api.OK},
		{"01010000", 1, 3, true, 6, api.OK},
		{"01010101", 1, 3, false, 8, api.ErrDry},
		{"10101000", 2, 3, true, 7, api.OK},
		{"11000000", 2, 3, false, 2, api.OK},
		{"11111110", 255, 256, true, 8, api.OK},
		{"11111111", 255, 256, false, 8, api.ErrDry},
		{"00000000", 1, 256, true, 8, api.OK},
		{"00000000", 1, 257, false, 8, api.ErrDry},
	} {
		for _, k := range []int64{1, 2, 6, 1 << 40} {
			s := bits.New(script(c.bits))
			if b, e := s.Coin(timesOf(rat(c.n, c.d), big.NewInt(k))); b != c.want || e != c.e || s.Read() != c.read || s.Dry() != (e == api.ErrDry) {
				t.Errorf("%s for %d/%d: %t, %d, %d bits", c.bits, c.n, c.d, b, e, s.Read())
			}
		}
	}
}

// P23.3: coins of all small numbers, by all scripts of one byte, against the model.
func TestCoinSmall(t *testing.T) {
	for d := int64(1); d <= 12; d++ {
		for n := int64(-1); n <= d+1; n++ {
			for i := range 256 {
				p := pairOf(t, string([]byte{byte(i)}))
				p.coin(n, d)
				p.coin(n, d)
			}
		}
	}
}

// P23.3: coins of numbers whose expansion is long: the script has as many of its digits as it wants, then the other bit.
func TestCoinLong(t *testing.T) {
	g := rand.New(rand.NewPCG(23, 6))
	for range 300 {
		x := ratio(natInt(g, 200), near(200, g.Int64N(1000)))
		digits := expansion(x, g.IntN(400))
		for _, end := range []string{"0", "1", "0000000000", "1111111111", ""} {
			p := pairOf(t, script(digits+end))
			p.coinOf(fracOf(x))
			p.bit()
		}
	}
}

// expansion is the first n binary digits of a number below 1.
func expansion(x *big.Rat, n int) string {
	m := new(big.Int).Lsh(x.Num(), uint(n))
	s := m.Quo(m, x.Denom()).Text(2)
	if n == 0 {
		return ""
	}
	return repeated("0", n-len(s)) + s
}

// P23.3: the longest numbers are thrown, too: what is computed on the way is not too long for a coin.
func TestCoinLongest(t *testing.T) {
	g := rand.New(rand.NewPCG(23, 7))
	top := near(mostBits, -1)
	for _, x := range []*big.Rat{
		ratio(near(mostBits, -2), top),
		ratio(big.NewInt(2), top),
		ratio(big.NewInt(1), pow2(mostBits-1)),
		ratio(near(mostBits-1, -1), pow2(mostBits-1)),
		ratio(near(mostBits-1, -1), top),
		ratio(near(mostBits-1, 1), top),
		ratio(top, near(mostBits, -2)),
		ratio(top, big.NewInt(1)),
		ratio(new(big.Int).Neg(top), big.NewInt(2)),
	} {
		for _, text := range []string{"", "\x00", "\x80", "\xff\xff\x7f", anyBytes(g, 40), repeated("\xff", 300), repeated("\x00", 300) + "\x01"} {
			p := pairOf(t, text)
			p.coinOf(fracOf(x))
			p.coinOf(fracOf(x))
		}
	}
	for _, x := range []*big.Rat{rat(1, 3), rat(2, 3), rat(1, 2)} {
		k := new(big.Int).Quo(top, x.Denom())
		p := pairOf(t, "\x55\x57\xaa\xbb\x00\xff\x12")
		p.coinOf(timesOf(x, k))
		p.coinOf(timesOf(x, k))
	}
}

// P23.3: a coin of the least number, of which all digits have to be read.
func TestCoinLeast(t *testing.T) {
	zeros := repeated("\x00", mostBits/8)
	s := bits.New(zeros)
	if b, e := s.Coin(fracOf(ratio(big.NewInt(1), pow2(mostBits-1)))); !b || e != api.OK || s.Read() != mostBits-1 {
		t.Error(b, e, s.Read())
	}
	s = bits.New(zeros[1:] + "\x02\x00")
	if b, e := s.Coin(fracOf(ratio(big.NewInt(1), pow2(mostBits-1)))); b || e != api.ErrDry || s.Read() != mostBits+8 {
		t.Error(b, e, s.Read())
	}
}

// P23.3: Decay bit by bit: which coins are thrown, and what becomes of them.
func TestDecay(t *testing.T) {
	for _, c := range []struct {
		bits string
		n, d int64
		want bool
		read int
		e    api.Errno
	}{
		{"", -1, 3, true, 0, api.OK},
		{"", 0, 1, true, 0, api.OK},
		{"", 1, 1, false, 0, api.ErrDry},
		// Of 1/2: a 1 first is no coin of 1/2 unless 0s follow.
		{"11000000", 1, 2, true, 2, api.OK},
		// Coins of 1/2 (true), of 1/4 (false: 1).
		{"01000000", 1, 2, false, 2, api.OK},
		// Of 1/2 (true), of 1/4 (true: 00), of 1/6 (false: 1).
		{"00010000", 1, 2, true, 4, api.OK},
		// Of 1 without a bit, of 1/2 (false: 11).
		{"11000000", 1, 1, false, 2, api.OK},
		// Of 1, of 1/2 (true), of 1/3 (false: 1).
		{"01000000", 1, 1, true, 2, api.OK},
		// Of 1, 1/2 (0), 1/3 (00), 1/4 (1).
		{"00010000", 1, 1, false, 4, api.OK},
		// Of 2: twice that of 1: (0, 1), (0, 1); then the rest is 0.
		{"01010000", 2, 1, true, 4, api.OK},
		// Of 2: (0, 1), (11).
		{"01110000", 2, 1, false, 4, api.OK},
		// Of 2: the first one is false.
		{"11010000", 2, 1, false, 2, api.OK},
		// Of 3/2: one of 1 (0, 1), then of 1/2 (11).
		{"01110000", 3, 2, true, 4, api.OK},
		// Of 3/2: one of 1 (0, 1), then of 1/2 (0), 1/4 (1).
		{"01010000", 3, 2, false, 4, api.OK},
		{"01010101", 5, 1, false, 8, api.ErrDry},
		{"01010101", 4, 1, true, 8, api.OK},
	} {
		for _, k := range []int64{1, 2, 6, 1 << 40} {
			s := bits.New(script(c.bits))
			if b, e := s.Decay(timesOf(rat(c.n, c.d), big.NewInt(k))); b != c.want || e != c.e || s.Read() != c.read {
				t.Errorf("%s for %d/%d: %t, %d, %d bits", c.bits, c.n, c.d, b, e, s.Read())
			}
		}
	}
}

// P23.3: Decay of small numbers, by all scripts of one byte and random ones behind, against the model.
func TestDecaySmall(t *testing.T) {
	g := rand.New(rand.NewPCG(23, 8))
	for d := int64(1); d <= 6; d++ {
		for n := int64(-1); n <= 3*d+1; n++ {
			for i := range 256 {
				p := pairOf(t, string([]byte{byte(i), byte(g.Uint32()), byte(g.Uint32())}))
				p.decay(n, d)
				p.decay(n, d)
			}
		}
	}
}

// P23.3: many coins in one call: of 1, 1/2, 1/3 and so on, all of which are true.
func TestDecayFar(t *testing.T) {
	for _, size := range []int{1, 5, 50, 400} {
		for _, end := range []string{"\xff", "\x7f", "\x01\xff", "\x00\x01"} {
			for _, x := range []*big.Rat{rat(1, 1), rat(1, 2), rat(9, 10), rat(7, 3)} {
				p := pairOf(t, repeated("\x00", size)+end)
				p.decayOf(fracOf(x))
				p.bit()
			}
		}
	}
}

// P23.3: whole numbers beyond any script: throws go on until one is false, or the source is dry.
func TestDecayGreat(t *testing.T) {
	passes := script(repeated("01", 400))
	for _, x := range []*big.Rat{
		rat(400, 1), rat(399, 1), rat(401, 1), rat(801, 2),
		ratio(pow2(64), big.NewInt(1)),
		ratio(near(mostBits, -1), big.NewInt(1)),
		ratio(near(mostBits, -1), big.NewInt(2)),
		ratio(near(mostBits, -1), near(mostBits-64, 1)),
	} {
		for _, end := range []string{"", "\xff", "\x00", "\x50\xff"} {
			p := pairOf(t, passes+end)
			p.decayOf(fracOf(x))
			p.bit()
		}
	}
}

// P23.3: ErrArg once layer 6 finds g divided by n too long, and only then; the source is as it was before the call.
func TestDecayTooLong(t *testing.T) {
	top, half := near(mostBits, -1), near(mostBits-1, 1)
	for _, c := range []struct {
		x      *big.Rat
		script string
		want   bool
		read   int
		e      api.Errno
	}{
		// The first coin is false.
		{ratio(big.NewInt(1), half), "\x80", true, 1, api.OK},
		{ratio(big.NewInt(2), top), "\x40", true, 2, api.OK},
		{ratio(big.NewInt(1), half), "\x00", false, 8, api.ErrDry},
		{ratio(big.NewInt(1), half), "", false, 0, api.ErrDry},
		// The first one is true, and a second one can't be thrown.
		{ratio(near(mostBits, -2), top), "\x00", false, 0, api.ErrArg},
		{ratio(near(mostBits, -2), top), "\xfe\xff", false, 0, api.ErrArg},
		{ratio(near(mostBits-1, -1), pow2(mostBits-1)), "\xff\x7f", false, 0, api.ErrArg},
		// There is room for a 2, but not for a 3, where two coins are true.
		{ratio(near(mostBits-1, -2), near(mostBits-1, -1)), "\x00", false, 0, api.ErrArg},
		{ratio(near(mostBits-1, -2), near(mostBits-1, -1)), "\x40", false, 2, api.OK},
	} {
		for _, before := range []int{0, 1, 4} {
			p := pairOf(t, repeated("\xa5", before)+c.script)
			p.number(8 * before)
			b, e := p.s.Copy().Decay(fracOf(c.x))
			if b != c.want || e != c.e {
				t.Errorf("%q: %t, %d, want %t, %d", c.script, b, e, c.want, c.e)
			}
			p.decayOf(fracOf(c.x))
			if p.s.Read() != 8*before+c.read || p.s.Dry() != (e == api.ErrDry) {
				t.Errorf("%q: %d bits, dry %t", c.script, p.s.Read(), p.s.Dry())
			}
			p.bit()
			p.number(5)
			p = pairOf(t, script("101"+digitsOf(c.script)))
			p.number(3)
			p.decayOf(fracOf(c.x))
			p.number(5)
		}
	}
	// A rest that is too long to be divided, behind ones of 1 that are not.
	x := new(big.Rat).Add(ratio(near(mostBits-2, -2), near(mostBits-2, -1)), rat(2, 1))
	for _, bits := range []string{"0101" + "00000000", "01011111", "1111", "0101" + "0001", "0101" + "001", "0101" + "01"} {
		p := pairOf(t, script(bits))
		p.decayOf(fracOf(x))
		p.number(3)
	}
}

// digitsOf writes the bits of a script.
func digitsOf(text string) string {
	out := ""
	for i := range 8 * len(text) {
		out += string('0' + text[i/8]>>(7-i%8)&1)
	}
	return out
}

// P23.3: a number that is not in lowest terms is thrown by as the normal one, also where layer 6 would find it too long.
func TestDecayNormal(t *testing.T) {
	k := new(big.Int).Quo(near(mostBits, -1), big.NewInt(12))
	for _, x := range []*big.Rat{rat(1, 2), rat(1, 1), rat(7, 3), rat(5, 12), rat(0, 1), rat(-5, 12)} {
		for _, text := range []string{"\x00\x00", "\x5a\x5a", "\x51\x11\x00\x3f"} {
			p := pairOf(t, text)
			p.decayOf(timesOf(x, k))
			p.coinOf(timesOf(x, k))
			p.decayOf(timesOf(x, k))
		}
	}
}
