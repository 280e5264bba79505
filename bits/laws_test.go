package bits_test

import (
	"math/big"
	"math/rand/v2"
	"strconv"
	"testing"

	"stepstone/api"
	"stepstone/bits"
)

// longest is how many bits the strings have of which all are thrown by.
const longest = 12

// P23.4: of all strings of n bits each number below m is returned for equally many, and for as many as there can be.
func TestBelowFair(t *testing.T) {
	for _, m := range []int64{1, 2, 3, 4, 5, 6, 7, 8, 9, 11, 15, 16, 17, 31, 33, 64, 100, 1000, 4095, 4096, 4097} {
		size := new(big.Int).SetInt64(m - 1).BitLen()
		for n := 0; n <= longest; n++ {
			counts, dry := map[string]int{}, 0
			for i := range uint64(1) << n {
				k, e := behind(t, n, i).Below(natOf(big.NewInt(m)))
				if e == api.OK {
					counts[text(bigOf(k))]++
				} else if dry++; e != api.ErrDry || k != nil {
					t.Errorf("below %d: %v, %d", m, k, e)
				}
			}
			if size <= n && len(counts) != int(m) || size > n && len(counts) != 0 {
				t.Errorf("%d numbers below %d by %d bits", len(counts), m, n)
			}
			for i := range int64(len(counts)) {
				if each := counts[strconv.FormatInt(i, 16)]; each*len(counts)+dry != 1<<n {
					t.Errorf("%d below %d for %d of 2^%d strings, %d are dry", i, m, each, n, dry)
				}
			}
		}
	}
}

// P23.4: a number of n bits is returned for one string of n bits, and for as many of those that are longer as of any other.
func TestNumberFair(t *testing.T) {
	for n := range longest + 1 {
		for more := range 3 {
			counts := map[string]int{}
			for i := range uint64(1) << (n + more) {
				m, e := behind(t, n+more, i).Number(n)
				if e != api.OK {
					t.Fatal(n, more, i, e)
				}
				counts[text(bigOf(m))]++
			}
			for i := range 1 << n {
				if counts[strconv.FormatInt(int64(i), 16)] != 1<<more || len(counts) != 1<<n {
					t.Errorf("%d for %d of 2^%d strings", i, counts[strconv.FormatInt(int64(i), 16)], n+more)
				}
			}
		}
	}
}

// count throws by all strings of n bits.
func count(t *testing.T, n int, throw func(s *bits.Source) (bool, api.Errno)) (is, isNot, dry int64) {
	t.Helper()
	for i := range uint64(1) << n {
		switch b, e := throw(behind(t, n, i)); {
		case e == api.ErrDry && !b:
			dry++
		case e != api.OK:
			t.Fatalf("%d bits of %d: %t, %d", n, i, b, e)
		case b:
			is++
		default:
			isNot++
		}
	}
	return is, isNot, dry
}

// holdFair asks whether the number of strings of n bits is at most what the chance says, which is from low to high, and with those that are dry at least that.
func holdFair(t *testing.T, name string, n int, is, dry int64, low, high *big.Rat) {
	t.Helper()
	all := ratio(pow2(n), big.NewInt(1))
	if rat(is, 1).Cmp(new(big.Rat).Mul(high, all)) > 0 {
		t.Errorf("%s: true for %d of 2^%d strings", name, is, n)
	}
	if rat(is+dry, 1).Cmp(new(big.Rat).Mul(low, all)) < 0 {
		t.Errorf("%s: true for %d, dry for %d of 2^%d strings", name, is, dry, n)
	}
}

// P23.4: coins of many p; only one string of n bits is dry, as each other one has had its first digit that differs.
func TestCoinFair(t *testing.T) {
	for d := int64(1); d <= 17; d++ {
		for k := int64(-1); k <= d+1; k++ {
			p := rat(k, d)
			for _, n := range []int{0, 1, 2, 3, 5, 8, 11, longest} {
				is, _, dry := count(t, n, func(s *bits.Source) (bool, api.Errno) { return s.Coin(fracOf(p)) })
				bound := p
				if p.Sign() < 0 {
					bound = rat(0, 1)
				}
				if p.Cmp(rat(1, 1)) > 0 {
					bound = rat(1, 1)
				}
				holdFair(t, p.String(), n, is, dry, bound, bound)
				if certain := p.Sign() <= 0 || p.Cmp(rat(1, 1)) >= 0; certain && dry != 0 || !certain && dry != 1 {
					t.Errorf("%s: %d strings of %d bits are dry", p, dry, n)
				}
			}
		}
	}
}

// decayBounds is e to the power of 0 minus g, from below and from above, by the series of its opposite's half.
func decayBounds(g *big.Rat) (low, high *big.Rat) {
	if g.Sign() <= 0 {
		return rat(1, 1), rat(1, 1)
	}
	// e to the power of g is the sum of what is added; what is left of it, from the 80th term on, is below twice that term, as g is below 20.
	sum, term := rat(0, 1), rat(1, 1)
	for n := int64(1); n <= 80; n++ {
		sum.Add(sum, term)
		term.Mul(term, g)
		term.Quo(term, rat(n, 1))
	}
	above := new(big.Rat).Add(sum, new(big.Rat).Add(term, term))
	return above.Inv(above), new(big.Rat).Inv(sum)
}

// P23.4: coins of e to the power of 0 minus g, of many g.
func TestDecayFair(t *testing.T) {
	for _, d := range []int64{1, 2, 3, 5, 8, 13} {
		for k := int64(-1); k <= 3*d+1; k++ {
			g := rat(k, d)
			low, high := decayBounds(g)
			for _, n := range []int{0, 1, 2, 5, 8, longest} {
				is, isNot, dry := count(t, n, func(s *bits.Source) (bool, api.Errno) { return s.Decay(fracOf(g)) })
				holdFair(t, g.String(), n, is, dry, low, high)
				one := rat(1, 1)
				holdFair(t, "not "+g.String(), n, isNot, dry, new(big.Rat).Sub(one, high), new(big.Rat).Sub(one, low))
				if n == longest && dry > 1<<longest*3/10 {
					t.Errorf("%s: %d strings of %d bits are dry", g, dry, n)
				}
			}
		}
	}
}

// answers is what a row of calls of a seed tells of a script, until the source is dry, and how much was read behind each call.
func answers(text string, seed uint64) (out []string, read []int) {
	g := rand.New(rand.NewPCG(seed, 9))
	s := bits.New(text)
	for range 25 {
		var answer string
		var e api.Errno
		switch g.IntN(5) {
		case 0:
			var b bool
			b, e = s.Bit()
			answer = strconv.FormatBool(b)
		case 1:
			var m api.Nat
			m, e = s.Number(g.IntN(9))
			answer = bigOf(m).String()
		case 2:
			var m api.Nat
			m, e = s.Below(natOf(big.NewInt(1 + g.Int64N(99))))
			answer = bigOf(m).String()
		case 3:
			var b bool
			b, e = s.Coin(fracOf(rat(g.Int64N(9), 8)))
			answer = strconv.FormatBool(b)
		default:
			var b bool
			b, e = s.Decay(fracOf(rat(g.Int64N(20), 9)))
			answer = strconv.FormatBool(b)
		}
		if e != api.OK {
			return out, read
		}
		out, read = append(out, answer), append(read, s.Read())
	}
	return out, read
}

// P23.5: further bits, or other ones behind those that were read, change nothing.
func TestFurtherBits(t *testing.T) {
	g := rand.New(rand.NewPCG(23, 10))
	for seed := range uint64(3000) {
		text := anyScript(g, 25)
		want, read := answers(text, seed)
		other := text + anyBytes(g, 1+g.IntN(5))
		for range 2 {
			got, more := answers(other, seed)
			if len(got) < len(want) {
				t.Fatalf("%q: %v, want %v", other, got, want)
			}
			for i := range want {
				if got[i] != want[i] || more[i] != read[i] {
					t.Fatalf("%q: %s by %d bits, want %s by %d", other, got[i], more[i], want[i], read[i])
				}
			}
			if len(want) == 0 {
				break
			}
			keep := g.IntN(len(want)) + 1
			want, read = want[:keep], read[:keep]
			other = changedBehind(g, other, read[keep-1])
		}
	}
}

// changedBehind has the first n bits of a script, and any others.
func changedBehind(g *rand.Rand, text string, n int) string {
	out := []byte(text)
	for i := n; i < 8*len(text); i++ {
		out[i/8] ^= byte(g.IntN(2)) << (7 - i%8)
	}
	return string(out)
}

// P23.5: what is dry is dry with each beginning of the script, too; and it is not with enough bits behind it.
func TestBeginnings(t *testing.T) {
	g := rand.New(rand.NewPCG(23, 11))
	for seed := range uint64(1000) {
		text := anyBytes(g, 1+g.IntN(12))
		want, read := answers(text, seed)
		got, _ := answers(text[:g.IntN(len(text))], seed)
		if len(got) > len(want) {
			t.Fatalf("%q: %v, and %v of less of it", text, want, got)
		}
		for i := range got {
			if got[i] != want[i] {
				t.Fatalf("%q: %v, and %v of less of it", text, want, got)
			}
		}
		if len(want) == 0 {
			continue
		}
		// As many bytes as were read are enough.
		short, _ := answers(text[:(read[len(read)-1]+7)/8], seed)
		if len(short) < len(want) {
			t.Fatalf("%q: %v, and %v of what was read of it", text, want, short)
		}
	}
}
