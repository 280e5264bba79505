package gauss_test

import (
	"math/big"
	"math/rand/v2"
	"strings"
	"testing"

	"stepstone/api"
	"stepstone/bits"
	"stepstone/gauss"
)

// rowOf is a source of which just those bits are left that are written as 0 and 1, beside spaces and bars.
func rowOf(t *testing.T, row string) (s *bits.Source, ahead int) {
	t.Helper()
	row = strings.NewReplacer(" ", "", "|", "").Replace(row)
	ahead = (8 - len(row)%8) % 8
	s = bits.New(script(strings.Repeat("1", ahead) + row))
	if _, e := s.Number(ahead); e != api.OK {
		t.Fatal("the bits ahead can't be passed over")
	}
	return s, ahead
}

func sizeOf(row string) int { return strings.Count(row, "0") + strings.Count(row, "1") }

// byHand are rows of bits, read by hand by the words of the chapters, and what is drawn of them.
var byHand = []struct {
	bell bool
	n, d int64
	row  string
	want int64
}{
	// Of 1: no bit for u and its Decay; 11 is a Decay of 1 that's false, 01 one that's true; then the sign.
	{false, 1, 1, "11 0", 0},
	{false, 1, 1, "01 11 0", 1},
	{false, 1, 1, "01 11 1", -1},
	{false, 1, 1, "01 01 01 11 0", 3},
	{false, 1, 1, "01 01 01 01 01 11 1", -5},
	{false, 1, 1, "100001 0", 0},
	{false, 1, 1, "0 00 1 0", 0},
	{false, 1, 1, "0 00 00 1 11 1", -1},
	// 0 below 0 begins again.
	{false, 1, 1, "11 1 | 11 0", 0},
	{false, 1, 1, "11 1 | 11 1 | 11 1 | 11 0", 0},
	{false, 1, 1, "11 1 | 01 11 1", -1},
	{false, 2, 1, "0 11 0", 0},
	{false, 2, 1, "0 11 1 | 1 11 11 1", -1},
	{false, 2, 1, "1 11 11 0", 1},
	{false, 2, 1, "1 11 11 1", -1},
	{false, 2, 1, "0 01 11 1", -2},
	{false, 2, 1, "1 11 01 11 0", 3},
	// A Decay of u by t that is false begins again.
	{false, 2, 1, "1 01 | 0 11 0", 0},
	{false, 2, 1, "1 01 | 1 01 | 1 01 | 1 11 11 1", -1},
	{false, 3, 1, "00 11 0", 0},
	{false, 3, 1, "11 00 11 0", 0},
	{false, 3, 1, "01 1 11 1", -1},
	{false, 3, 1, "10 11 11 0", 2},
	{false, 3, 1, "10 01 | 01 1 11 0", 1},
	{false, 3, 1, "11 11 10 11 01 01 11 1", -8},
	{false, 4, 1, "11 1101 11 0", 3},
	// Of 1, t is 2; g is 1/8 for 0, 1 and -1: a bit 1 is a true Decay of it, 0001 a false one.
	{true, 1, 1, "0 11 0 1", 0},
	{true, 1, 1, "1 11 11 1 1", -1},
	{true, 1, 1, "0 11 0 0001 | 1 11 11 0 1", 1},
	{true, 1, 1, "0 11 0 0001 | 0 11 0 0001 | 0 11 0 0001 | 0 11 0 1", 0},
	{true, 1, 1, "0 11 1 | 0 11 0 1", 0},
	// g is 9/8 for 2: a Decay of 1, and that of 1/8.
	{true, 1, 1, "0 01 11 0 01 1", 2},
	{true, 1, 1, "0 01 11 1 11 | 0 11 0 1", 0},
	{true, 1, 1, "0 01 11 1 01 0001 | 0 01 11 1 01 1", -2},
	// Of 1/4, t is 1: g is 1/8 for 0, 9/8 for 1.
	{true, 1, 4, "11 0 1", 0},
	{true, 1, 4, "11 0 0001 | 11 0 1", 0},
	{true, 1, 4, "01 11 1 01 1", -1},
	// Of 3, t is 2: g is 3/8 for 0, 1/24 for 1.
	{true, 3, 1, "0 11 0 1", 0},
	{true, 3, 1, "0 11 0 0111", 0},
	{true, 3, 1, "0 11 0 001 | 1 11 11 0 1", 1},
	{true, 3, 1, "1 11 11 1 000011", -1},
	// Of 4, t is 3: g is 2/9 for 0, 8/9 for 4.
	{true, 4, 1, "00 11 0 1", 0},
	{true, 4, 1, "01 1 01 11 0 1111", 4},
	{true, 4, 1, "01 1 01 11 1 11101", -4},
	// Of 7/2, t is 2.
	{true, 7, 2, "0 11 0 1", 0},
}

func call(s *bits.Source, bell bool, n, d int64) (api.Int, api.Errno) {
	if bell {
		return gauss.Bell(s, fracOf(rat(n, d)))
	}
	return gauss.Slope(s, natOf(big.NewInt(n)))
}

// P24.1: what is drawn of rows of bits that were read by hand; and that each bit of them is read.
func TestByHand(t *testing.T) {
	for _, c := range byHand {
		s, ahead := rowOf(t, c.row)
		y, e := call(s, c.bell, c.n, c.d)
		if n := intOf(t, y, e); e != api.OK || n.Cmp(big.NewInt(c.want)) != 0 {
			t.Errorf("%t %d/%d of %s: %s, %d, want %d", c.bell, c.n, c.d, c.row, text(n), e, c.want)
		}
		if s.Read() != ahead+sizeOf(c.row) || s.Dry() {
			t.Errorf("%t %d/%d of %s: %d bits", c.bell, c.n, c.d, c.row, s.Read()-ahead)
		}
	}
}

// P24.1: a source that becomes dry at any of the steps: all that there was is read then, and later calls tell nothing else.
func TestDryBetween(t *testing.T) {
	for _, c := range byHand {
		row := strings.NewReplacer(" ", "", "|", "").Replace(c.row)
		for n := range len(row) {
			s, ahead := rowOf(t, row[:n])
			for range 2 {
				y, e := call(s, c.bell, c.n, c.d)
				if e != api.ErrDry || y.Neg || y.M != nil || !s.Dry() || s.Read() != ahead+n {
					t.Fatalf("%t %d/%d of %s: %v, %d, %d bits", c.bell, c.n, c.d, row[:n], y, e, s.Read()-ahead)
				}
			}
			if _, e := s.Bit(); e != api.ErrDry {
				t.Errorf("a bit of a dry source: %d", e)
			}
		}
	}
}

// P24.1: the chapter's examples.
func TestExamples(t *testing.T) {
	if y, e := gauss.Slope(bits.New(""), api.Nat{1}); e != api.ErrDry || y.Neg || y.M != nil {
		t.Error(y, e)
	}
	for _, text := range []string{"", "\x00", "any", "\xff\xff"} {
		if y, e := gauss.Bell(bits.New(text), fracOf(rat(0, 1))); e != api.ErrArg || y.Neg || y.M != nil {
			t.Error(y, e)
		}
	}
}

// wrongSlopes are numbers that Slope refuses.
func wrongSlopes() []api.Nat {
	long := make(api.Nat, mostLimbs+1)
	long[mostLimbs] = 1
	return []api.Nat{nil, {}, {0}, {0, 0, 0}, make(api.Nat, mostLimbs+9), long, append(long[:len(long):len(long)], 0)}
}

// wrongBells are numbers that Bell refuses.
func wrongBells() []api.Frac {
	one, long := api.Nat{1}, wrongSlopes()[5]
	return []api.Frac{
		{}, {D: one}, {D: api.Nat{3, 0}}, {N: api.Int{M: one}}, {N: api.Int{M: one}, D: api.Nat{0, 0}},
		{N: api.Int{Neg: true, M: one}, D: one}, {N: api.Int{Neg: true, M: api.Nat{0}}, D: one},
		{N: api.Int{Neg: true, M: one}, D: api.Nat{7, 1}}, {N: api.Int{M: long}, D: one}, {N: api.Int{M: one}, D: long},
		{N: api.Int{M: long}, D: long}, {N: api.Int{Neg: true, M: long}, D: nil},
	}
}

// P24.1: ErrNil is ahead of ErrArg, and that ahead of ErrDry; a call that is refused reads nothing.
func TestRefusals(t *testing.T) {
	for _, s := range []*bits.Source{nil, {}} {
		for _, n := range append(wrongSlopes(), api.Nat{1}, api.Nat{7, 9}) {
			if y, e := gauss.Slope(s, n); e != api.ErrNil || y.Neg || y.M != nil {
				t.Error(y, e)
			}
		}
		for _, w := range append(wrongBells(), fracOf(rat(1, 1)), fracOf(rat(7, 9))) {
			if y, e := gauss.Bell(s, w); e != api.ErrNil || y.Neg || y.M != nil {
				t.Error(y, e)
			}
		}
	}
	fresh, half := bits.New("\x12\x34"), bits.New("abc")
	half.Number(11)
	for _, s := range []*bits.Source{fresh, half, fresh.Copy(), bits.New(""), dried(t, "xyz"), dried(t, "")} {
		for _, n := range wrongSlopes() {
			slope(t, s, n)
		}
		for _, w := range wrongBells() {
			bell(t, s, w)
		}
	}
	if fresh.Read() != 0 || half.Read() != 11 || fresh.Dry() || half.Dry() {
		t.Error("a call that is refused has read")
	}
}

// P24.1: a dry source is told ahead of what layer 6 can't compute.
func TestDryFirst(t *testing.T) {
	long := fracOf(ratio(big.NewInt(1), near(mostBits-1, 1)))
	for _, s := range []*bits.Source{bits.New(""), dried(t, ""), dried(t, "0123"), bits.New("\xff")} {
		// The last one is not dry yet: it is after 11 1, 11 1 and 11.
		if got := bell(t, s, long); got.e != api.ErrDry || !got.dry {
			t.Error(got)
		}
	}
}

// P24.1: numbers of any size, each in any script, one behind the other until it is dry.
func TestAnySlope(t *testing.T) {
	g := rand.New(rand.NewPCG(24, 1))
	for range 4000 {
		s := bits.New(anyScript(g, 60))
		for n := anyNat(g); !s.Dry(); {
			if slope(t, s, n).e == api.ErrArg {
				break
			}
			if g.IntN(3) == 0 {
				n = anyNat(g)
			}
		}
	}
}

func TestAnyBell(t *testing.T) {
	g := rand.New(rand.NewPCG(24, 2))
	for range 4000 {
		s := bits.New(anyScript(g, 60))
		for w := anyFrac(g); !s.Dry(); {
			if bell(t, s, w).e == api.ErrArg {
				break
			}
			if g.IntN(3) == 0 {
				w = anyFrac(g)
			}
		}
	}
}

// P24.1: Slope of small numbers, of powers of two, and of one more and less, also with limbs of 0 on top.
func TestSlopes(t *testing.T) {
	g := rand.New(rand.NewPCG(24, 3))
	var all []*big.Int
	for n := int64(1); n <= 20; n++ {
		all = append(all, big.NewInt(n))
	}
	for _, n := range []int{6, 8, 31, 32, 63, 64, 65, 127, 128, 192, 300, 1000} {
		all = append(all, near(n, -1), near(n, 0), near(n, 1))
	}
	for _, n := range all {
		m := natOf(n)
		s := bits.New(anyBytes(g, 60+6*n.BitLen()))
		count := 0
		for ; !s.Dry(); count++ {
			slope(t, s, append(m[:len(m):len(m)], make(api.Nat, count%3)...))
		}
		if count < 10 {
			t.Errorf("%d integers for %s", count, text(n))
		}
	}
}

// P24.1: Bell of squares, and of one more and less, of numbers below 1, of fractions, great and small ones.
func TestBells(t *testing.T) {
	g := rand.New(rand.NewPCG(24, 4))
	var all []*big.Rat
	for k := int64(1); k <= 7; k++ {
		for _, more := range []int64{-1, 0, 1} {
			for _, d := range []int64{1, 2, 3, 1000} {
				all = append(all, rat(k*k*d+more, d), rat(k*d+more, k*d*k))
			}
		}
	}
	for _, n := range []int{20, 32, 40, 64, 100, 128, 200, 600} {
		for _, more := range []int64{-1, 0, 1} {
			x := near(n, more)
			square := new(big.Int).Mul(x, x)
			all = append(all, whole(x), ratio(big.NewInt(1), x), whole(square), ratio(square, big.NewInt(7)), ratio(x, near(n, 3)), ratio(near(2*n, 1), x))
		}
	}
	for i, w := range all {
		if w.Sign() <= 0 {
			continue
		}
		s := bits.New(anyBytes(g, 90+5*w.Num().BitLen()))
		count := 0
		for ; !s.Dry(); count++ {
			bell(t, s, timesOf(w, big.NewInt(1+int64(i%3))))
		}
		if count < 10 {
			t.Errorf("%d integers for %s", count, w)
		}
	}
}

// R7: what is not in lowest terms, and has limbs of 0 on top, is drawn by as what it is.
func TestAsWritten(t *testing.T) {
	g := rand.New(rand.NewPCG(24, 5))
	for range 200 {
		text := anyBytes(g, 60)
		x := ratio(natInt(g, 40), natInt(g, 40))
		s, other := bits.New(text), bits.New(text)
		want := bell(t, s, fracOf(x))
		w := timesOf(x, natInt(g, 100))
		w.N.M, w.D = append(w.N.M, 0, 0), append(w.D, 0)
		if got := bell(t, other, w); got != want {
			t.Fatalf("%s: %s, want %s", shown(w), got, want)
		}
	}
	// As it is written, each of its parts is as long as can be.
	k := new(big.Int).Quo(near(mostBits, -1), big.NewInt(7))
	s, other := bits.New("some bits, and more"), bits.New("some bits, and more")
	if got, want := bell(t, s, timesOf(rat(5, 7), k)), bell(t, other, fracOf(rat(5, 7))); got != want || got.e != api.OK {
		t.Errorf("%s, want %s", got, want)
	}
}
