package gauss_test

import (
	"math"
	"math/big"
	"math/rand/v2"
	"testing"

	"stepstone/api"
	"stepstone/bits"
	"stepstone/gauss"
)

// longest is how many bits the strings have of which all are drawn by.
const longest = 12

// drawer draws an integer of a source.
type drawer func(s *bits.Source) (api.Int, api.Errno)

func bellOf(w *big.Rat) drawer {
	a := fracOf(w)
	return func(s *bits.Source) (api.Int, api.Errno) { return gauss.Bell(s, a) }
}

func slopeBy(t int64) drawer {
	m := natOf(big.NewInt(t))
	return func(s *bits.Source) (api.Int, api.Errno) { return gauss.Slope(s, m) }
}

// tally draws by all strings of n bits: how many return each integer, and how many are dry.
func tally(t *testing.T, n int, draw drawer) (counts map[int64]int64, dry int64) {
	t.Helper()
	counts = map[int64]int64{}
	for i := range uint64(1) << n {
		y, e := draw(behind(t, n, i))
		switch m := intOf(t, y, e); e {
		case api.OK:
			counts[m.Int64()]++
		case api.ErrDry:
			dry++
		default:
			t.Fatalf("%d bits of %d: error %d", n, i, e)
		}
	}
	return counts, dry
}

// least is a number that is not above e to the power of g, and, for g of magnitude up to 30, hardly below it.
func least(g *big.Rat) *big.Rat {
	if g.Sign() >= 0 {
		sum, _ := series(g)
		return sum
	}
	if g.Cmp(rat(-30, 1)) < 0 {
		return rat(0, 1)
	}
	// What is left of the series is at most twice its next term.
	sum, term := series(new(big.Rat).Neg(g))
	return sum.Inv(sum.Add(sum, term.Add(term, term)))
}

// series sums the terms of e to the power of g, or of 30 if that is less, and tells the one behind the last.
func series(g *big.Rat) (sum, term *big.Rat) {
	sum, term = rat(0, 1), rat(1, 1)
	if g.Cmp(rat(30, 1)) > 0 {
		g = rat(30, 1)
	}
	for n := int64(1); n <= 120; n++ {
		sum.Add(sum, term)
		term.Mul(term, g)
		term.Quo(term, rat(n, 1))
	}
	return sum, term
}

// bells are the w of which all strings are drawn by.
func bells() []*big.Rat {
	return []*big.Rat{rat(1, 1), rat(1, 4), rat(1, 3), rat(1, 20), rat(7, 10), rat(2, 1), rat(5, 2), rat(3, 1), rat(4, 1), rat(17, 2), rat(9, 1), rat(24, 1), rat(1000, 3)}
}

// P24.2: of all scripts of n bits as many return an integer as return 0 minus it.
func TestEitherSign(t *testing.T) {
	for _, w := range bells() {
		for n := range longest + 1 {
			counts, _ := tally(t, n, bellOf(w))
			for y, k := range counts {
				if counts[-y] != k {
					t.Errorf("%s: %d for %d of 2^%d scripts, %d for %d", w, y, k, n, -y, counts[-y])
				}
			}
		}
	}
	for k := int64(1); k <= 9; k++ {
		counts, _ := tally(t, longest, slopeBy(k))
		for y, n := range counts {
			if counts[-y] != n {
				t.Errorf("%d: %d for %d scripts, %d for %d", k, y, n, -y, counts[-y])
			}
		}
	}
}

// farthest is how far from 0 the integers are that are held against one another.
const farthest = 9

// weights are by how much the bell of w is greater at the integer x than at y, for each y*y - x*x.
func weights(w *big.Rat) map[int64]*big.Rat {
	out := map[int64]*big.Rat{}
	for x := int64(-farthest); x <= 0; x++ {
		for y := int64(-farthest); y <= 0; y++ {
			g := rat(y*y-x*x, 2)
			out[y*y-x*x] = least(g.Quo(g, w))
		}
	}
	return out
}

// P24.2: for two integers, the number of scripts that return the one, weighted by its bell, is at most that of those that return the other, or are dry, weighted by that one's.
func TestTwoIntegers(t *testing.T) {
	for _, w := range bells() {
		by := weights(w)
		for _, n := range []int{0, 1, 3, 4, 5, 6, 8, 10, longest} {
			counts, dry := tally(t, n, bellOf(w))
			for x := int64(-farthest); x <= farthest; x++ {
				for y := int64(-farthest); y <= farthest; y++ {
					bound := new(big.Rat).Mul(by[y*y-x*x], rat(counts[y]+dry, 1))
					if rat(counts[x], 1).Cmp(bound) > 0 {
						t.Errorf("%s of 2^%d scripts: %d for %d, %d for %d, %d dry", w, n, x, counts[x], y, counts[y], dry)
					}
				}
			}
		}
	}
}

// holdNear asks whether so many of 2^n scripts are as many as the chances say, which are given up to a factor, as far as none is dry.
func holdNear(t *testing.T, name string, n int, counts map[int64]int64, dry int64, chance func(y float64) float64) {
	t.Helper()
	all := 0.0
	for y := -2000.0; y <= 2000; y++ {
		all += chance(y)
	}
	returned := int64(0)
	for y := int64(-20); y <= 20; y++ {
		due := chance(float64(y)) / all * math.Pow(2, float64(n))
		if float64(counts[y]) > due*(1+1e-9) || float64(counts[y]+dry) < due*(1-1e-9) {
			t.Errorf("%s: %d for %d of 2^%d scripts, %d are dry, want %g", name, y, counts[y], n, dry, due)
		}
		returned += counts[y]
	}
	if returned == 0 && n == longest {
		t.Errorf("%s: nothing is returned", name)
	}
}

// P24.2: the chances are those of the bell, and of what falls by t on either side.
func TestPublished(t *testing.T) {
	for _, w := range bells() {
		x, _ := w.Float64()
		for _, n := range []int{2, 5, 9, longest} {
			counts, dry := tally(t, n, bellOf(w))
			holdNear(t, w.String(), n, counts, dry, func(y float64) float64 { return math.Exp(-y * y / (2 * x)) })
		}
	}
	for k := int64(1); k <= 9; k++ {
		for _, n := range []int{2, 5, 9, longest} {
			counts, dry := tally(t, n, slopeBy(k))
			holdNear(t, "slope", n, counts, dry, func(y float64) float64 { return math.Exp(-math.Abs(y) / float64(k)) })
		}
	}
}

// P24.2: many integers of one source spread as the bell does, also where w is great.
func TestSpread(t *testing.T) {
	g := rand.New(rand.NewPCG(24, 6))
	for _, w := range []int64{1, 5, 100, 12345, 1 << 40} {
		const count = 6000
		s := bits.New(anyBytes(g, count*40))
		sum, squares := 0.0, 0.0
		for range count {
			y, e := gauss.Bell(s, fracOf(rat(w, 1)))
			if e != api.OK {
				t.Fatal(w, e)
			}
			m, _ := new(big.Float).SetInt(intOf(t, y, e)).Float64()
			sum, squares = sum+m, squares+m*m
		}
		mean, spread := sum/count/math.Sqrt(float64(w)), squares/count/float64(w)
		if math.Abs(mean) > 0.05 || math.Abs(spread-1) > 0.08 {
			t.Errorf("%d: mean %f, spread %f", w, mean, spread)
		}
	}
}

// told is what a row of calls of a seed tells of a script, until it is dry, and how much was read behind each call.
func told(t *testing.T, text string, seed uint64) (out []string, read []int) {
	g := rand.New(rand.NewPCG(seed, 24))
	s := bits.New(text)
	for range 12 {
		var y api.Int
		var e api.Errno
		if g.IntN(2) == 0 {
			y, e = gauss.Slope(s, natOf(big.NewInt(1+g.Int64N(70))))
		} else {
			y, e = gauss.Bell(s, fracOf(rat(1+g.Int64N(100), 1+g.Int64N(9))))
		}
		if e != api.OK {
			return out, read
		}
		out, read = append(out, intOf(t, y, e).String()), append(read, s.Read())
	}
	return out, read
}

// changedBehind has the first n bits of a script, and any others.
func changedBehind(g *rand.Rand, text string, n int) string {
	out := []byte(text)
	for i := n; i < 8*len(text); i++ {
		out[i/8] ^= byte(g.IntN(2)) << (7 - i%8)
	}
	return string(out)
}

// P24.2: further bits, or other ones behind those that were read, change nothing.
func TestFurtherBits(t *testing.T) {
	g := rand.New(rand.NewPCG(24, 7))
	for seed := range uint64(1500) {
		text := anyScript(g, 25)
		want, read := told(t, text, seed)
		other := text + anyBytes(g, 1+g.IntN(5))
		for range 2 {
			got, more := told(t, other, seed)
			if len(got) < len(want) {
				t.Fatalf("%q: %v, want %v", other, got, want)
			}
			for i := range want {
				if got[i] != want[i] || more[i] != read[i] {
					t.Fatalf("%q: %s by %d bits, want %s by %d", other, got[i], more[i], want[i], read[i])
				}
			}
			if len(want) == 0 {
				break
			}
			keep := g.IntN(len(want)) + 1
			want, read = want[:keep], read[:keep]
			other = changedBehind(g, other, read[keep-1])
		}
	}
}
