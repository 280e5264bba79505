package frac_test

import (
	"math"
	"math/big"
	"slices"
	"testing"

	"stepstone/api"
	"stepstone/dyad"
	"stepstone/frac"
	"stepstone/nat"
	"stepstone/zint"
)

// longFracs are numbers one or both of whose parts have 2048 limbs, normal, or with a divisor in common.
func longFracs() []api.Frac {
	full := allOnes(maxBits)
	highest := pow2(maxBits - 1)
	l := []api.Frac{fracOf(full, big.NewInt(1)), fracOf(big.NewInt(1), full), fracOf(full, highest), fracOf(highest, full), fracOf(plus(highest, 1), big.NewInt(3)), fracOf(big.NewInt(3), highest), fracOf(full, full), fracOf(highest, plus(highest, 6)), fracOf(big.NewInt(12), highest)}
	for _, a := range slices.Clone(l) {
		l = append(l, turned(a))
	}
	return l
}

// P6.1: Of returns n divided by 1, to both ends of its range.
func TestOf(t *testing.T) {
	for _, n := range []int64{0, 1, -1, 2, -2, 7, -7, 1 << 32, -1 << 32, math.MaxInt64 - 1, math.MaxInt64, -math.MaxInt64, math.MinInt64 + 1, math.MinInt64} {
		isFrac(t, big.NewRat(n, 1), frac.Of(n), api.OK, "Of", small(n, 1))
	}
}

func makes(t *testing.T, n, d api.Int) {
	t.Helper()
	got, e := frac.Make(n, d)
	isFrac(t, new(big.Rat).SetFrac(bigOf(n), bigOf(d)), got, e, "Make", api.Frac{N: n, D: d.M})
}

// P6.1: the chapter's example, and all signs, with divisors in common and without; 0 by anything.
func TestMake(t *testing.T) {
	got, e := frac.Make(zint.Of(6), zint.Of(-4))
	isFrac(t, big.NewRat(-3, 2), got, e, "Make", small(6, 4))
	for n := int64(-40); n <= 40; n++ {
		for d := int64(-40); d <= 40; d++ {
			if d != 0 {
				makes(t, intOf(big.NewInt(n)), intOf(big.NewInt(d)))
			}
		}
	}
	for _, a := range slices.Concat(someFracs(), zeros()) {
		for _, neg := range []bool{false, true} {
			makes(t, a.N, api.Int{Neg: neg, M: a.D})
		}
	}
	anyPairs(61, 10000, 6, func(a, b api.Frac) { makes(t, a.N, api.Int{Neg: b.N.Neg, M: b.D}) })
}

// P6.1: parts of 2048 limbs, and of one bit more: also if they were not too long once their common divisor is gone.
func TestMakeAtTheLimit(t *testing.T) {
	for _, a := range longFracs() {
		for _, neg := range []bool{false, true} {
			makes(t, a.N, api.Int{Neg: neg, M: a.D})
		}
	}
	for _, m := range tooLong() {
		for _, neg := range []bool{false, true} {
			long := api.Int{Neg: neg, M: m}
			for _, n := range []api.Int{{}, {Neg: true}, zint.Of(1), zint.Of(-6), intOf(allOnes(maxBits)), long} {
				got, e := frac.Make(n, long)
				fails(t, api.ErrLong, got, e, "Make", api.Frac{N: n, D: m})
				if zint.Sign(n) != 0 {
					got, e = frac.Make(long, n)
					fails(t, api.ErrLong, got, e, "Make", api.Frac{N: long, D: n.M})
				}
			}
		}
	}
}

// P6.1: wrong inputs: a d of 0, in any way, comes ahead of an n that is too long.
func TestMakeByZero(t *testing.T) {
	numbers := []api.Int{{}, {Neg: true}, zint.Of(1), zint.Of(-6), intOf(allOnes(maxBits)), {M: tooLong()[0]}, {Neg: true, M: tooLong()[2]}}
	for _, n := range numbers {
		for _, z := range zeros() {
			got, e := frac.Make(n, z.N)
			fails(t, api.ErrArg, got, e, "Make", api.Frac{N: n, D: z.N.M})
		}
	}
}

// P6.1, P6.2: the number itself, and 0 minus it, normal, in whatever way it is written.
func TestNormNeg(t *testing.T) {
	check := func(a api.Frac) {
		t.Helper()
		got, e := frac.Norm(a)
		isFrac(t, valueOf(a), got, e, "Norm", a)
		got, e = frac.Neg(a)
		isFrac(t, new(big.Rat).Neg(valueOf(a)), got, e, "Neg", a)
	}
	for _, a := range slices.Concat(someFracs(), zeros()) {
		for _, n := range []int{0, 1, 3000} {
			check(padded(a, n))
		}
		for _, by := range []*big.Int{big.NewInt(2), big.NewInt(45), pow2(64), allOnes(130)} {
			check(widened(a, by))
		}
	}
	for _, a := range longFracs() {
		check(a)
		check(padded(a, 1))
	}
	for _, a := range []api.Frac{small(0, 1), small(1, 3), small(-5, 2)} {
		check(widened(a, plus(pow2(maxBits-3), 1)))
	}
	for _, d := range []*big.Int{allOnes(maxBits), pow2(maxBits - 1)} {
		check(fracOf(new(big.Int), d))
		check(turned(fracOf(new(big.Int), d)))
	}
}

// P6.1: Sign is that of N, but 0 for a number that is not valid.
func TestSign(t *testing.T) {
	for _, a := range slices.Concat(someFracs(), zeros(), longFracs()) {
		if got := frac.Sign(a); got != bigOf(a.N).Sign() {
			t.Errorf("Sign of %s = %d", shown(a), got)
		}
	}
	for _, a := range notValid() {
		if got := frac.Sign(a); got != 0 {
			t.Errorf("Sign of %s, which is not valid, = %d", shown(a), got)
		}
	}
}

func crosswise(a, b api.Frac) []*big.Int {
	return []*big.Int{times(bigOf(a.N), bigOfNat(b.D)), times(bigOf(b.N), bigOfNat(a.D))}
}

func compares(t *testing.T, a, b api.Frac) {
	t.Helper()
	got, e := frac.Cmp(a, b)
	want, wantError := valueOf(a).Cmp(valueOf(b)), api.OK
	if may, must := mayBeLong(crosswise, a, b); must || may && e != api.OK {
		want, wantError = 0, api.ErrLong
	}
	if got != want || e != wantError {
		t.Errorf("Cmp of %s = %d, error %d, want %d, error %d", shown(a, b), got, e, want, wantError)
	}
}

// P6.1: the order of all pairs, also of such as are equal but for the way they are written, and of those next to each other.
func TestCmp(t *testing.T) {
	l := slices.Concat(someFracs(), zeros()[:24])
	for _, a := range l {
		for _, b := range l {
			compares(t, a, b)
		}
	}
	for _, a := range l {
		for _, by := range []*big.Int{big.NewInt(1), big.NewInt(6), pow2(300)} {
			b := widened(a, by)
			for d := int64(-1); d <= 1; d++ {
				b.N = intOf(plus(bigOf(b.N), d))
				compares(t, a, b)
				compares(t, b, a)
				compares(t, turned(a), b)
			}
		}
	}
	anyPairs(62, 20000, 6, func(a, b api.Frac) { compares(t, a, b) })
}

// P6.1: products crosswise of 2048 limbs, and of one bit more; also where the signs, or one bit, would tell the order.
func TestCmpAtTheLimit(t *testing.T) {
	for _, c := range longPairs() {
		for _, a := range []api.Frac{c.a, turned(c.a)} {
			for _, b := range []api.Frac{c.b, turned(c.b)} {
				compares(t, a, b)
				compares(t, b, a)
			}
		}
	}
	for _, a := range longFracs() {
		compares(t, a, small(0, 1))
		compares(t, small(0, 1), a)
		compares(t, a, a)
	}
}

// The errors' order: a number that is not valid comes first, whatever else is wrong, or would make the answer plain.
func TestNotValid(t *testing.T) {
	asFrac := func(m api.Int, e api.Errno) (api.Frac, api.Errno) { return api.Frac{N: m}, e }
	singles := map[string]func(a api.Frac) (api.Frac, api.Errno){
		"Norm":  frac.Norm,
		"Neg":   frac.Neg,
		"Floor": func(a api.Frac) (api.Frac, api.Errno) { return asFrac(frac.Floor(a)) },
		"Round": func(a api.Frac) (api.Frac, api.Errno) { x, e := frac.Round(a, 10, false); return asFrac(x.M, e) },
		"Round to all bits": func(a api.Frac) (api.Frac, api.Errno) {
			x, e := frac.Round(a, api.MaxPrec, true)
			return asFrac(x.M, e)
		},
		"Round to 0 bits": func(a api.Frac) (api.Frac, api.Errno) { x, e := frac.Round(a, 0, true); return asFrac(x.M, e) },
	}
	pairs := map[string]func(a, b api.Frac) (api.Frac, api.Errno){
		"Add": frac.Add, "Sub": frac.Sub, "Mul": frac.Mul, "Div": frac.Div,
		"Cmp": func(a, b api.Frac) (api.Frac, api.Errno) { n, e := frac.Cmp(a, b); return asFrac(zint.Of(int64(n)), e) },
	}
	for _, a := range notValid() {
		for name, call := range singles {
			got, e := call(a)
			fails(t, api.ErrArg, got, e, name, a)
		}
		for _, b := range slices.Concat(notValid()[36:48], []api.Frac{a, turned(a), {}, small(0, 1), small(0, 5), small(1, 1), small(-3, 5), fracOf(allOnes(maxBits), big.NewInt(1)), fracOf(big.NewInt(1), allOnes(maxBits))}) {
			for name, call := range pairs {
				got, e := call(a, b)
				fails(t, api.ErrArg, got, e, name, a, b)
				got, e = call(b, a)
				fails(t, api.ErrArg, got, e, name, b, a)
			}
		}
		for _, n := range []int{0, 3, 1000, 1001} {
			if got := frac.Places(a, n) + frac.Text(a); got != "" {
				t.Errorf("Places and Text of %s = %.100s..", shown(a), got)
			}
		}
	}
}

// R5: what is handed in stays, with what is behind it in its memory; what is returned is nobody else's memory.
func TestMemory(t *testing.T) {
	calls := map[string]func(a, b api.Frac) []api.Nat{
		"Make":       func(a, b api.Frac) []api.Nat { return partsOf(frac.Make(a.N, api.Int{Neg: b.N.Neg, M: b.D})) },
		"Norm":       func(a, b api.Frac) []api.Nat { return partsOf(frac.Norm(a)) },
		"Neg":        func(a, b api.Frac) []api.Nat { return partsOf(frac.Neg(a)) },
		"Add":        func(a, b api.Frac) []api.Nat { return partsOf(frac.Add(a, b)) },
		"Sub":        func(a, b api.Frac) []api.Nat { return partsOf(frac.Sub(a, b)) },
		"Mul":        func(a, b api.Frac) []api.Nat { return partsOf(frac.Mul(a, b)) },
		"Div":        func(a, b api.Frac) []api.Nat { return partsOf(frac.Div(a, b)) },
		"Floor":      func(a, b api.Frac) []api.Nat { m, _ := frac.Floor(a); return []api.Nat{m.M} },
		"Exact":      func(a, b api.Frac) []api.Nat { return partsOf(frac.Exact(api.Dyad{M: a.N, E: len(b.D) - 3})) },
		"Exact at 0": func(a, b api.Frac) []api.Nat { return partsOf(frac.Exact(api.Dyad{M: a.N})) },
		"Round":      func(a, b api.Frac) []api.Nat { x, _ := frac.Round(a, 1+40*len(b.D), a.N.Neg); return []api.Nat{x.M.M} },
		"made":       func(a, b api.Frac) []api.Nat { return partsOf(frac.Of(-5), api.OK) },
		"read":       func(a, b api.Frac) []api.Nat { return partsOf(frac.Numeral("12.5e1")) },
		"rest": func(a, b api.Frac) []api.Nat {
			frac.Sign(a)
			frac.Cmp(a, b)
			frac.Text(a)
			frac.Places(a, 5)
			return nil
		},
	}
	l := []api.Nat{nil, {0}, {1}, {6}, {9, 0}, {ones}, {0, 1}, {ones, ones, 0, 0}, {5, 0, top}, {1, 2, 3, 4, 5, 6}, {0, 0, 0, 12}}
	for name, call := range calls {
		for i, m := range l {
			for j, n := range l[2:] {
				signs := []bool{i%2 == 0, j%2 == 0}
				memoryStays(t, name, call, api.Frac{N: api.Int{Neg: signs[0], M: m}, D: l[2+(i+j)%9]}, api.Frac{N: api.Int{Neg: signs[1], M: n}, D: l[2+(2*i+j)%9]})
				memoryStays(t, name, call, api.Frac{N: api.Int{Neg: signs[0], M: m}, D: api.Nat{1}}, api.Frac{N: api.Int{Neg: signs[1], M: n}, D: api.Nat{1}})
			}
		}
	}
}

func partsOf(a api.Frac, _ api.Errno) []api.Nat { return []api.Nat{a.N.M, a.D} }

func memoryStays(t *testing.T, name string, call func(a, b api.Frac) []api.Nat, a, b api.Frac) {
	t.Helper()
	behind := api.Nat{11, 12, 13, 14, 15, 16, 17, 18}
	ground := slices.Concat(a.N.M, behind, a.D, behind, b.N.M, behind, b.D, behind)
	before := slices.Clone(ground)
	at := 0
	laid := func(m api.Nat) api.Nat {
		at += len(m) + len(behind)
		return ground[at-len(m)-len(behind):][:len(m)]
	}
	x := api.Frac{N: api.Int{Neg: a.N.Neg, M: laid(a.N.M)}, D: laid(a.D)}
	y := api.Frac{N: api.Int{Neg: b.N.Neg, M: laid(b.N.M)}, D: laid(b.D)}
	first := call(x, y)
	var values []string
	for _, out := range first {
		values = append(values, bigOfNat(out).String())
	}
	// Each part is written over, with its spare room, one after the other: the others must not see it.
	for i, out := range first {
		for j, other := range first[i:] {
			if bigOfNat(other).String() != values[i+j] {
				t.Errorf("%s of %s: parts of the result share their memory", name, shown(a, b))
			}
		}
		room := out[:cap(out)]
		for k := range room {
			room[k] = 0xdead
		}
	}
	if !slices.Equal(ground, before) {
		t.Errorf("%s of %s: what was handed in, or what is behind it, was changed", name, shown(a, b))
	}
	for i, out := range call(x, y) {
		if bigOfNat(out).String() != values[i] {
			t.Errorf("%s of %s: another answer the second time", name, shown(a, b))
		}
	}
}

// The chapter's examples that are calls of calls.
func TestExamples(t *testing.T) {
	got, e := frac.Add(small(1, 2), small(1, 3))
	isFrac(t, big.NewRat(5, 6), got, e, "Add", small(1, 2), small(1, 3))
	if m, e := frac.Floor(small(-3, 2)); e != api.OK || zint.Cmp(m, zint.Of(-2)) != 0 {
		t.Errorf("Floor of -3/2 = %s, error %d", zint.Text(m), e)
	}
	if x, e := frac.Round(small(1, 3), 4, true); e != api.OK || dyad.Text(x) != "11p-5" {
		t.Errorf("Round of 1/3 to 4 bits, up = %s, error %d", dyad.Text(x), e)
	}
	if d := frac.Of(12).D; nat.Cmp(d, nat.Of(1)) != 0 {
		t.Errorf("Of 12 has the denominator %s", nat.Text(d))
	}
}
