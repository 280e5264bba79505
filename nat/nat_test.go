package nat_test

import (
	"math"
	"math/big"
	"math/rand/v2"
	"slices"
	"testing"

	"stepstone/api"
	"stepstone/nat"
)

// P3.1: a small number is its limb, and 0 is none.
func TestOf(t *testing.T) {
	for _, n := range []uint64{0, 1, 2, 18, 255, 1 << 32, half - 1, half, ones - 1, ones} {
		isNat(t, new(big.Int).SetUint64(n), nat.Of(n), api.OK, "Of", api.Nat{n})
	}
	if len(nat.Of(0)) != 0 || len(nat.Of(1)) != 1 || nat.Of(7)[0] != 7 {
		t.Error("Of 0, 1, 7")
	}
}

// P3.1: limbs that are 0 on top go, those below stay.
func TestNorm(t *testing.T) {
	for _, z := range zeros() {
		got, e := nat.Norm(z)
		isNat(t, new(big.Int), got, e, "Norm", z)
	}
	for _, a := range someNumbers() {
		for _, n := range []int{0, 1, 2, 3000} {
			padded := append(slices.Clone(a), make(api.Nat, n)...)
			got, e := nat.Norm(padded)
			isNat(t, bigOf(a), got, e, "Norm", a)
		}
	}
	for _, a := range []api.Nat{allOnes(2048), append(allOnes(2048), 0), append(make(api.Nat, 2047), 1, 0, 0)} {
		got, e := nat.Norm(a)
		isNat(t, bigOf(a), got, e, "Norm", a)
	}
	for _, a := range tooLongs() {
		got, e := nat.Norm(a)
		fails(t, api.ErrLong, got, e, "Norm", a)
	}
}

// P3.1: the least number of bits, next to each power of two, and beyond the limit.
func TestBits(t *testing.T) {
	for _, c := range []struct {
		a    api.Nat
		want int
	}{
		{nil, 0}, {api.Nat{}, 0}, {api.Nat{0}, 0}, {make(api.Nat, 3000), 0},
		{api.Nat{1}, 1}, {api.Nat{2}, 2}, {api.Nat{3}, 2}, {api.Nat{4}, 3},
		{api.Nat{ones}, 64}, {api.Nat{0, 1}, 65}, {api.Nat{ones, 1}, 65}, {api.Nat{0, 2, 0, 0}, 66},
		{allOnes(2048), 131072}, {append(make(api.Nat, 2048), 1), 131073}, {allOnes(3000), 192000},
	} {
		if got := nat.Bits(c.a); got != c.want {
			t.Errorf("Bits of %s = %d, want %d", shown([]api.Nat{c.a}), got, c.want)
		}
	}
	for n := range 300 {
		for _, c := range []struct {
			of   *big.Int
			want int
		}{{pow2(n), n + 1}, {plus(pow2(n), -1), n}} {
			if got := nat.Bits(natOf(c.of)); got != c.want {
				t.Errorf("Bits next to 2^%d = %d, want %d", n, got, c.want)
			}
		}
	}
}

// P3.1: each bit, those below and above the number, and those of numbers that are too long.
func TestBit(t *testing.T) {
	for _, a := range append(someNumbers(), zeros()...) {
		n := bigOf(a)
		for i := range 64*len(a) + 70 {
			if got, want := nat.Bit(a, i), n.Bit(i) == 1; got != want {
				t.Fatalf("Bit %d of %s is %v", i, shown([]api.Nat{a}), got)
			}
		}
		for _, i := range []int{-1, -63, -64, -65, math.MinInt, math.MaxInt, 1 << 40} {
			if nat.Bit(a, i) {
				t.Errorf("Bit %d of %s is set", i, shown([]api.Nat{a}))
			}
		}
	}
	long := append(make(api.Nat, 2048), 1)
	if !nat.Bit(long, 131072) || nat.Bit(long, 131071) || nat.Bit(long, 131073) || !nat.Bit(allOnes(2049), 131135) || nat.Bit(allOnes(2049), 131136) {
		t.Error("bits of numbers that are too long")
	}
}

// P3.1: the order, whatever limbs that are 0 stand on top.
func TestCmp(t *testing.T) {
	l := someNumbers()
	for _, a := range l {
		for _, b := range l {
			want := bigOf(a).Cmp(bigOf(b))
			padded := append(slices.Clone(b), 0, 0, 0)
			if nat.Cmp(a, b) != want || nat.Cmp(a, padded) != want || nat.Cmp(padded, a) != -want {
				t.Errorf("Cmp of %s is not %d", shown([]api.Nat{a, b}), want)
			}
		}
	}
	anyPairs(31, 20000, 8, func(a, b api.Nat) {
		if got, want := nat.Cmp(a, b), bigOf(a).Cmp(bigOf(b)); got != want {
			t.Errorf("Cmp of %s = %d, want %d", shown([]api.Nat{a, b}), got, want)
		}
	})
	for _, a := range zeros() {
		for _, b := range zeros() {
			if nat.Cmp(a, b) != 0 || nat.Cmp(a, nat.Of(1)) != -1 || nat.Cmp(nat.Of(1), a) != 1 {
				t.Error("Cmp of ways to write 0")
			}
		}
	}
	for _, a := range tooLongs() {
		for _, b := range append(tooLongs(), allOnes(2048), nil) {
			if got, want := nat.Cmp(a, b), bigOf(a).Cmp(bigOf(b)); got != want {
				t.Errorf("Cmp of a number that is too long: %d, want %d", got, want)
			}
		}
	}
}

// P3.2: sums, differences and products of all pairs of the numbers.
func TestAddSubMul(t *testing.T) {
	l := someNumbers()
	for _, a := range l {
		for _, b := range l {
			sumsAndProducts(t, a, b)
		}
	}
	anyPairs(32, 20000, 9, func(a, b api.Nat) { sumsAndProducts(t, a, b) })
	anyPairs(33, 30, 600, func(a, b api.Nat) { sumsAndProducts(t, a, b) })
}

func sumsAndProducts(t *testing.T, a, b api.Nat) {
	t.Helper()
	m, n := bigOf(a), bigOf(b)
	got, e := nat.Add(a, b)
	isNat(t, new(big.Int).Add(m, n), got, e, "Add", a, b)
	got, e = nat.Mul(a, b)
	isNat(t, new(big.Int).Mul(m, n), got, e, "Mul", a, b)
	got, e = nat.Sub(a, b)
	if m.Cmp(n) < 0 {
		fails(t, api.ErrNone, got, e, "Sub", a, b)
	} else {
		isNat(t, new(big.Int).Sub(m, n), got, e, "Sub", a, b)
	}
}

// P3.2: the chapter's example, and what is carried and borrowed through all limbs.
func TestCarries(t *testing.T) {
	if got, e := nat.Mul(api.Nat{ones}, api.Nat{ones}); e != api.OK || !slices.Equal(got, api.Nat{1, ones - 1}) {
		t.Errorf("the square of 2^64 - 1 = %v, error %d", got, e)
	}
	for n := 1; n < 40; n++ {
		top := append(make(api.Nat, n), 1)
		got, e := nat.Add(allOnes(n), nat.Of(1))
		isNat(t, pow2(64*n), got, e, "Add", allOnes(n), nat.Of(1))
		got, e = nat.Add(nat.Of(1), allOnes(n))
		isNat(t, pow2(64*n), got, e, "Add", nat.Of(1), allOnes(n))
		got, e = nat.Sub(top, nat.Of(1))
		isNat(t, plus(pow2(64*n), -1), got, e, "Sub", top, nat.Of(1))
		got, e = nat.Sub(top, allOnes(n))
		isNat(t, big.NewInt(1), got, e, "Sub", top, allOnes(n))
	}
}

// P3.2: sums, differences and products with each way of writing 0, also as the difference of equal numbers.
func TestAddSubMulOfZero(t *testing.T) {
	for _, z := range zeros() {
		for _, a := range append(fewNumbers(), allOnes(2048), append(allOnes(2048), 0, 0)) {
			sumsAndProducts(t, a, z)
			sumsAndProducts(t, z, a)
		}
		for _, y := range zeros() {
			sumsAndProducts(t, y, z)
		}
	}
	for _, a := range append(someNumbers(), allOnes(2048)) {
		got, e := nat.Sub(a, append(slices.Clone(a), 0))
		isNat(t, new(big.Int), got, e, "Sub", a, a)
	}
}

// P3.2: 2048 limbs as the result, and one bit more.
func TestAddMulAtTheLimit(t *testing.T) {
	most := plus(pow2(maxBits), -1)
	for _, c := range []struct{ a, b *big.Int }{
		{most, big.NewInt(0)}, {plus(most, -1), big.NewInt(1)}, {most, big.NewInt(1)}, {most, most},
		{pow2(maxBits - 1), pow2(maxBits - 1)}, {pow2(maxBits - 1), plus(pow2(maxBits-1), -1)},
		{pow2(maxBits / 2), pow2(maxBits / 2)}, {pow2(maxBits / 2), pow2(maxBits/2 - 1)},
		{plus(pow2(maxBits/2), -1), plus(pow2(maxBits/2), -1)}, {plus(pow2(maxBits/2), 1), plus(pow2(maxBits/2), -1)},
		{plus(pow2(maxBits/2+1), -1), plus(pow2(maxBits/2), -1)}, {plus(pow2(maxBits/2+1), -1), pow2(maxBits/2 - 1)},
		{plus(pow2(maxBits/2), 1), pow2(maxBits/2 - 1)},
		{pow2(maxBits - 1), big.NewInt(2)}, {pow2(maxBits - 2), big.NewInt(3)}, {pow2(maxBits - 2), big.NewInt(4)},
		{pow2(maxBits - 64), new(big.Int).SetUint64(ones)}, {pow2(maxBits - 63), new(big.Int).SetUint64(ones)},
		{most, big.NewInt(2)},
	} {
		for _, p := range [][2]api.Nat{{natOf(c.a), natOf(c.b)}, {natOf(c.b), natOf(c.a)}} {
			got, e := nat.Add(p[0], p[1])
			upToTheLimit(t, new(big.Int).Add(c.a, c.b), got, e, "Add", p[0], p[1])
			got, e = nat.Mul(p[0], p[1])
			upToTheLimit(t, new(big.Int).Mul(c.a, c.b), got, e, "Mul", p[0], p[1])
		}
	}
}

func upToTheLimit(t *testing.T, want *big.Int, got api.Nat, e api.Errno, what string, of ...api.Nat) {
	t.Helper()
	if want.BitLen() > maxBits {
		fails(t, api.ErrLong, got, e, what, of...)
	} else {
		isNat(t, want, got, e, what, of...)
	}
}

// The errors' order: a number that is too long comes first, whatever else is wrong or is 0.
func TestTooLong(t *testing.T) {
	for _, a := range tooLongs() {
		for _, b := range append(tooLongs(), nil, api.Nat{0, 0}, nat.Of(1), nat.Of(5), allOnes(2048)) {
			for _, p := range [][2]api.Nat{{a, b}, {b, a}} {
				for name, f := range map[string]func(a, b api.Nat) (api.Nat, api.Errno){"Add": nat.Add, "Sub": nat.Sub, "Mul": nat.Mul, "Gcd": nat.Gcd} {
					got, e := f(p[0], p[1])
					fails(t, api.ErrLong, got, e, name, p[0], p[1])
				}
				q, r, e := nat.Div(p[0], p[1])
				fails(t, api.ErrLong, q, e, "Div", p[0], p[1])
				fails(t, api.ErrLong, r, e, "Div", p[0], p[1])
			}
		}
		for _, n := range []int{0, 1, -1, 64, 1000000, math.MinInt, math.MaxInt} {
			got, e := nat.Shl(a, n)
			fails(t, api.ErrLong, got, e, "Shl", a)
			got, e = nat.Shr(a, n)
			fails(t, api.ErrLong, got, e, "Shr", a)
		}
		got, e := nat.Root(a)
		fails(t, api.ErrLong, got, e, "Root", a)
		if s := nat.Text(a); s != "" {
			t.Errorf("Text of a number that is too long has %d bytes", len(s))
		}
	}
}

// P3.7: sums and products depend neither on order nor on grouping, go with each other, and what was added can be subtracted.
func TestLaws(t *testing.T) {
	g := rand.New(rand.NewPCG(3, 7))
	for range 20000 {
		most := 1 + g.IntN(12)
		a, b, c := anyNat(g, g.IntN(most), g.IntN(3)), anyNat(g, g.IntN(most), g.IntN(3)), anyNat(g, g.IntN(most), g.IntN(3))
		sum := func(a, b api.Nat) api.Nat { out, _ := nat.Add(a, b); return out }
		product := func(a, b api.Nat) api.Nat { out, _ := nat.Mul(a, b); return out }
		back, e := nat.Sub(sum(a, b), b)
		switch {
		case !slices.Equal(sum(a, b), sum(b, a)), !slices.Equal(sum(sum(a, b), c), sum(a, sum(b, c))):
			t.Errorf("sums of %s", shown([]api.Nat{a, b, c}))
		case !slices.Equal(product(a, b), product(b, a)), !slices.Equal(product(product(a, b), c), product(a, product(b, c))):
			t.Errorf("products of %s", shown([]api.Nat{a, b, c}))
		case !slices.Equal(product(a, sum(b, c)), sum(product(a, b), product(a, c))):
			t.Errorf("a product with a sum of %s", shown([]api.Nat{a, b, c}))
		case e != api.OK, !slices.Equal(back, norm(a)):
			t.Errorf("the way back from a sum of %s", shown([]api.Nat{a, b}))
		}
	}
}

// R5: what is handed in stays, with what is behind it in its memory; what is returned is nobody else's memory.
func TestMemory(t *testing.T) {
	calls := map[string]func(a, b api.Nat) []api.Nat{
		"Norm": func(a, b api.Nat) []api.Nat { x, _ := nat.Norm(a); return []api.Nat{x} },
		"Add":  func(a, b api.Nat) []api.Nat { x, _ := nat.Add(a, b); return []api.Nat{x} },
		"Sub":  func(a, b api.Nat) []api.Nat { x, _ := nat.Sub(a, b); return []api.Nat{x} },
		"Mul":  func(a, b api.Nat) []api.Nat { x, _ := nat.Mul(a, b); return []api.Nat{x} },
		"Div":  func(a, b api.Nat) []api.Nat { q, r, _ := nat.Div(a, b); return []api.Nat{q, r} },
		"Shl":  func(a, b api.Nat) []api.Nat { x, _ := nat.Shl(a, len(b)%3*32); return []api.Nat{x} },
		"Shr":  func(a, b api.Nat) []api.Nat { x, _ := nat.Shr(a, len(b)%3*32); return []api.Nat{x} },
		"Gcd":  func(a, b api.Nat) []api.Nat { x, _ := nat.Gcd(a, b); return []api.Nat{x} },
		"Root": func(a, b api.Nat) []api.Nat { x, _ := nat.Root(a); return []api.Nat{x} },
		"Rest": func(a, b api.Nat) []api.Nat {
			nat.Bits(a)
			nat.Bit(a, 3)
			nat.Cmp(a, b)
			nat.Text(a)
			return nil
		},
	}
	l := []api.Nat{nil, {0}, {6}, {9, 0}, {ones}, {0, 1}, {ones, ones, 0, 0}, {5, 0, half}, {1, 2, 3, 4, 5, 6}, allOnes(7), {0, 0, 0, 12}}
	for name, call := range calls {
		for _, a := range l {
			for _, b := range l {
				memoryStays(t, name, call, a, b)
			}
		}
	}
}

func memoryStays(t *testing.T, name string, call func(a, b api.Nat) []api.Nat, a, b api.Nat) {
	t.Helper()
	behind := api.Nat{11, 12, 13, 14, 15, 16, 17, 18}
	ground := slices.Concat(a, behind, b, behind)
	before := slices.Clone(ground)
	x, y := ground[:len(a)], ground[len(a)+len(behind):][:len(b)]
	first := call(x, y)
	var values []string
	for _, out := range first {
		values = append(values, bigOf(out).String())
	}
	// Each result is written over, with its spare room, one after the other: the others must not see it.
	for i, out := range first {
		for j, other := range first[i:] {
			if bigOf(other).String() != values[i+j] {
				t.Errorf("%s of %s: results share their memory", name, shown([]api.Nat{a, b}))
			}
		}
		out = out[:cap(out)]
		for k := range out {
			out[k] = 0xdead
		}
	}
	if !slices.Equal(ground, before) {
		t.Errorf("%s of %s: what was handed in, or what is behind it, was changed", name, shown([]api.Nat{a, b}))
	}
	for i, out := range call(x, y) {
		if bigOf(out).String() != values[i] {
			t.Errorf("%s of %s: another answer the second time", name, shown([]api.Nat{a, b}))
		}
	}
}
