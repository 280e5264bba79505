package zint_test

import (
	"math"
	"math/big"
	"math/rand/v2"
	"slices"
	"testing"

	"stepstone/api"
	"stepstone/zint"
)

// P4.1: Of returns n, to both ends of its range, and Small the same again.
func TestOf(t *testing.T) {
	for _, n := range []int64{0, 1, -1, 2, -2, 7, -7, 1 << 32, -1 << 32, math.MaxInt64 - 1, math.MaxInt64, -math.MaxInt64, math.MinInt64 + 1, math.MinInt64} {
		isInt(t, big.NewInt(n), zint.Of(n), api.OK, "Of", small(n))
		if got, e := zint.Small(zint.Of(n)); got != n || e != api.OK {
			t.Errorf("Small of %d = %d, error %d", n, got, e)
		}
		if got, e := zint.Small(padded(small(n), 3000)); got != n || e != api.OK {
			t.Errorf("Small of %d with limbs that are 0 on top = %d, error %d", n, got, e)
		}
	}
}

// P4.1: what fits in an int64 is told, all else is not.
func TestSmall(t *testing.T) {
	for _, a := range append(someInts(), zeros()...) {
		want, wantError := int64(0), api.ErrNone
		if n := bigOf(a); n.IsInt64() {
			want, wantError = n.Int64(), api.OK
		}
		if got, e := zint.Small(a); got != want || e != wantError {
			t.Errorf("Small of %s = %d, error %d, want %d, error %d", shown(a), got, e, want, wantError)
		}
	}
	for _, n := range append(longest(), pow2(63), plus(pow2(63), 1), negative(plus(pow2(63), 1)), pow2(64), negative(pow2(64)), plus(pow2(64), 5), plus(negative(pow2(64)), -5), plus(pow2(64), -5), pow2(128)) {
		if got, e := zint.Small(intOf(n)); got != 0 || e != api.ErrNone {
			t.Errorf("Small of %s = %d, error %d", shown(intOf(n)), got, e)
		}
	}
	for _, a := range tooLongs() {
		if got, e := zint.Small(a); got != 0 || e != api.ErrLong {
			t.Errorf("Small of an integer that is too long = %d, error %d", got, e)
		}
	}
}

// P4.1, P4.2: limbs that are 0 on top go, and the sign of 0; Neg turns the sign of all others.
func TestNormNeg(t *testing.T) {
	l := append(someInts(), zeros()...)
	for _, n := range longest() {
		l = append(l, intOf(n))
	}
	for _, a := range l {
		for _, n := range []int{0, 1, 3000} {
			got, e := zint.Norm(padded(a, n))
			isInt(t, bigOf(a), got, e, "Norm", a)
			got, e = zint.Neg(padded(a, n))
			isInt(t, negative(bigOf(a)), got, e, "Neg", a)
		}
	}
	for _, a := range tooLongs() {
		got, e := zint.Norm(a)
		fails(t, api.ErrLong, got, e, "Norm", a)
		got, e = zint.Neg(a)
		fails(t, api.ErrLong, got, e, "Neg", a)
	}
}

// P4.1: signs, and the order, whatever way the integers are written, also of those that are too long.
func TestSignCmp(t *testing.T) {
	l := append(append(someInts(), zeros()...), tooLongs()...)
	for _, n := range longest() {
		l = append(l, intOf(n))
	}
	for _, a := range l {
		m := bigOf(a)
		if got := zint.Sign(a); got != m.Sign() {
			t.Errorf("Sign of %s = %d", shown(a), got)
		}
		for _, b := range l {
			if got, want := zint.Cmp(a, b), m.Cmp(bigOf(b)); got != want {
				t.Errorf("Cmp of %s = %d, want %d", shown(a, b), got, want)
			}
		}
	}
	anyPairs(41, 20000, 6, func(a, b api.Int) {
		if got, want := zint.Cmp(a, b), bigOf(a).Cmp(bigOf(b)); got != want {
			t.Errorf("Cmp of %s = %d, want %d", shown(a, b), got, want)
		}
	})
}

// P4.2: sums, differences and products of all pairs of the integers.
func TestAddSubMul(t *testing.T) {
	l := append(someInts(), zeros()...)
	for _, a := range l {
		for _, b := range l {
			sumsAndProducts(t, a, b)
		}
	}
	anyPairs(42, 20000, 6, func(a, b api.Int) { sumsAndProducts(t, a, b) })
	anyPairs(43, 40, 500, func(a, b api.Int) { sumsAndProducts(t, a, b) })
}

func sumsAndProducts(t *testing.T, a, b api.Int) {
	t.Helper()
	m, n := bigOf(a), bigOf(b)
	got, e := zint.Add(a, b)
	upToTheLimit(t, new(big.Int).Add(m, n), got, e, "Add", a, b)
	got, e = zint.Sub(a, b)
	upToTheLimit(t, new(big.Int).Sub(m, n), got, e, "Sub", a, b)
	got, e = zint.Mul(a, b)
	upToTheLimit(t, new(big.Int).Mul(m, n), got, e, "Mul", a, b)
}

// P4.2: 2048 limbs as the result, and one bit more, of all pairs of signs.
func TestAddSubMulAtTheLimit(t *testing.T) {
	for _, c := range []struct{ a, b *big.Int }{
		{most(), big.NewInt(0)}, {most(), big.NewInt(1)}, {plus(most(), -1), big.NewInt(1)}, {most(), big.NewInt(2)}, {most(), most()},
		{pow2(maxBits - 1), pow2(maxBits - 1)}, {pow2(maxBits - 1), plus(pow2(maxBits-1), -1)}, {pow2(maxBits - 2), big.NewInt(3)}, {pow2(maxBits - 2), big.NewInt(4)},
		{pow2(maxBits / 2), pow2(maxBits / 2)}, {pow2(maxBits / 2), pow2(maxBits/2 - 1)}, {plus(pow2(maxBits/2), -1), plus(pow2(maxBits/2), 1)},
	} {
		for _, a := range []*big.Int{c.a, negative(c.a)} {
			for _, b := range []*big.Int{c.b, negative(c.b)} {
				sumsAndProducts(t, intOf(a), intOf(b))
				sumsAndProducts(t, intOf(b), intOf(a))
			}
		}
	}
}

// The errors' order: an integer that is too long comes first, whatever else is wrong, or would make the answer plain.
func TestTooLong(t *testing.T) {
	calls := map[string]func(a, b api.Int) (api.Int, api.Errno){
		"Add": zint.Add, "Sub": zint.Sub, "Mul": zint.Mul, "Half": zint.Half,
		"Floor": func(a, b api.Int) (api.Int, api.Errno) { q, _, e := zint.Floor(a, b); return q, e },
		"rest":  func(a, b api.Int) (api.Int, api.Errno) { _, r, e := zint.Floor(a, b); return r, e },
	}
	for _, a := range tooLongs() {
		for _, b := range append(tooLongs(), api.Int{}, api.Int{Neg: true, M: api.Nat{0}}, small(1), small(-1), small(5), intOf(most()), intOf(negative(most())), turned(a), a) {
			for name, call := range calls {
				got, e := call(a, b)
				fails(t, api.ErrLong, got, e, name, a, b)
				got, e = call(b, a)
				fails(t, api.ErrLong, got, e, name, b, a)
			}
		}
		for _, n := range []int{0, 1, 2, -1, 64, 100000, 100001, 1000000, math.MinInt, math.MaxInt} {
			for name, call := range map[string]func(a api.Int, n int) (api.Int, api.Errno){"Shl": zint.Shl, "Shr": zint.Shr, "Pow": zint.Pow} {
				got, e := call(a, n)
				fails(t, api.ErrLong, got, e, name, a)
			}
		}
	}
}

// P4.6: sums and products depend neither on order nor on grouping, go with each other, and what was added can be subtracted.
func TestLaws(t *testing.T) {
	g := rand.New(rand.NewPCG(4, 6))
	sum := func(a, b api.Int) api.Int { out, _ := zint.Add(a, b); return out }
	product := func(a, b api.Int) api.Int { out, _ := zint.Mul(a, b); return out }
	for range 20000 {
		n := 1 + g.IntN(10)
		a, b, c := anyInt(g, n), anyInt(g, n), anyInt(g, n)
		back, e := zint.Sub(sum(a, b), b)
		switch {
		case !same(sum(a, b), sum(b, a)), !same(sum(sum(a, b), c), sum(a, sum(b, c))):
			t.Errorf("sums of %s", shown(a, b, c))
		case !same(product(a, b), product(b, a)), !same(product(product(a, b), c), product(a, product(b, c))):
			t.Errorf("products of %s", shown(a, b, c))
		case !same(product(a, sum(b, c)), sum(product(a, b), product(a, c))):
			t.Errorf("a product with a sum of %s", shown(a, b, c))
		case e != api.OK, !same(back, norm(a)):
			t.Errorf("the way back from a sum of %s", shown(a, b))
		}
	}
}

// R5: what is handed in stays, with what is behind it in its memory; what is returned is nobody else's memory.
func TestMemory(t *testing.T) {
	calls := map[string]func(a, b api.Int) []api.Int{
		"Norm":  func(a, b api.Int) []api.Int { x, _ := zint.Norm(a); return []api.Int{x} },
		"Neg":   func(a, b api.Int) []api.Int { x, _ := zint.Neg(a); return []api.Int{x} },
		"Add":   func(a, b api.Int) []api.Int { x, _ := zint.Add(a, b); return []api.Int{x} },
		"Sub":   func(a, b api.Int) []api.Int { x, _ := zint.Sub(a, b); return []api.Int{x} },
		"Mul":   func(a, b api.Int) []api.Int { x, _ := zint.Mul(a, b); return []api.Int{x} },
		"Floor": func(a, b api.Int) []api.Int { q, r, _ := zint.Floor(a, b); return []api.Int{q, r} },
		"Half":  func(a, b api.Int) []api.Int { x, _ := zint.Half(a, b); return []api.Int{x} },
		"Shl":   func(a, b api.Int) []api.Int { x, _ := zint.Shl(a, len(b.M)%3*32); return []api.Int{x} },
		"Shr":   func(a, b api.Int) []api.Int { x, _ := zint.Shr(a, len(b.M)%3*32); return []api.Int{x} },
		"Pow":   func(a, b api.Int) []api.Int { x, _ := zint.Pow(a, len(b.M)); return []api.Int{x} },
		"Rest": func(a, b api.Int) []api.Int {
			zint.Small(a)
			zint.Sign(a)
			zint.Cmp(a, b)
			zint.Text(a)
			return nil
		},
		"made": func(a, b api.Int) []api.Int {
			x, _ := zint.Parse("-77")
			y, _ := zint.Pow(small(0), 0)
			return []api.Int{zint.Of(1), zint.Of(-1), x, y}
		},
	}
	l := []api.Nat{nil, {0}, {1}, {6}, {9, 0}, {ones}, {0, 1}, {ones, ones, 0, 0}, {5, 0, top}, {1, 2, 3, 4, 5, 6}, {0, 0, 0, 12}}
	for name, call := range calls {
		for _, m := range l {
			for _, n := range l {
				for signs := range 4 {
					memoryStays(t, name, call, api.Int{Neg: signs&1 > 0, M: m}, api.Int{Neg: signs&2 > 0, M: n})
				}
			}
		}
	}
}

func memoryStays(t *testing.T, name string, call func(a, b api.Int) []api.Int, a, b api.Int) {
	t.Helper()
	behind := api.Nat{11, 12, 13, 14, 15, 16, 17, 18}
	ground := slices.Concat(a.M, behind, b.M, behind)
	before := slices.Clone(ground)
	x, y := api.Int{Neg: a.Neg, M: ground[:len(a.M)]}, api.Int{Neg: b.Neg, M: ground[len(a.M)+len(behind):][:len(b.M)]}
	first := call(x, y)
	var values []string
	for _, out := range first {
		values = append(values, bigOf(out).String())
	}
	// Each result is written over, with its spare room, one after the other: the others must not see it.
	for i, out := range first {
		for j, other := range first[i:] {
			if bigOf(other).String() != values[i+j] {
				t.Errorf("%s of %s: results share their memory", name, shown(a, b))
			}
		}
		room := out.M[:cap(out.M)]
		for k := range room {
			room[k] = 0xdead
		}
	}
	if !slices.Equal(ground, before) {
		t.Errorf("%s of %s: what was handed in, or what is behind it, was changed", name, shown(a, b))
	}
	for i, out := range call(x, y) {
		if bigOf(out).String() != values[i] {
			t.Errorf("%s of %s: another answer the second time", name, shown(a, b))
		}
	}
}
