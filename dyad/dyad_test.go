package dyad_test

import (
	"math"
	"math/big"
	"slices"
	"testing"

	"stepstone/api"
	"stepstone/dyad"
)

// P5.1: Of returns n, normal, to both ends of its range.
func TestOf(t *testing.T) {
	for _, n := range []int64{0, 1, -1, 2, -2, 7, -7, 12, -12, 45, 1 << 32, -1 << 32, 3 << 61, math.MaxInt64 - 1, math.MaxInt64, -math.MaxInt64, math.MinInt64 + 1, math.MinInt64} {
		isExact(t, exactly(big.NewInt(n), 0), dyad.Of(n), api.OK, "Of", small(n, 0))
	}
}

// P5.1, P5.2: the number itself, and 0 minus it, normal, in whatever way it is written.
func TestNormNeg(t *testing.T) {
	for _, a := range slices.Concat(someDyads(), zeros(), tooFar()) {
		for _, n := range []int{0, 1, 3000} {
			got, e := dyad.Norm(padded(a, n))
			isExact(t, valueOf(a), got, e, "Norm", a)
			got, e = dyad.Neg(padded(a, n))
			isExact(t, valueOf(a).turned(), got, e, "Neg", a)
		}
	}
}

// P5.1: what is even is halved as far as it goes, by whole limbs and more; the exponent may leave the bounds by that, and come as far as to them.
func TestNormOfEven(t *testing.T) {
	for _, odd := range []int64{1, -1, 3, -77} {
		for _, n := range []int{0, 1, 2, 63, 64, 65, 127, 128, 1000, 1024, maxBits - 64, maxBits - 8} {
			for _, e := range []int{0, 5, -1000, -far, far, far - n, far - n + 1, far - n - 1} {
				if e > far {
					continue
				}
				a := dyadOf(new(big.Int).Lsh(big.NewInt(odd), uint(n)), e)
				got, err := dyad.Norm(a)
				isExact(t, exactly(big.NewInt(odd), e+n), got, err, "Norm", a)
			}
		}
	}
}

// P5.1: Sign is that of M, whatever the exponent is.
func TestSign(t *testing.T) {
	for _, a := range slices.Concat(someDyads(), zeros(), tooFar(), notValid()) {
		if got := dyad.Sign(a); got != bigOf(a.M).Sign() {
			t.Errorf("Sign of %s = %d", shown(a), got)
		}
	}
}

// P5.1: the least t such that the magnitude is less than 2^t; of numbers that are not valid too, as far as there is one.
func TestTop(t *testing.T) {
	for _, c := range []struct {
		m       int64
		e, want int
	}{{0, 0, 0}, {0, 9, 0}, {1, 0, 1}, {-1, 0, 1}, {2, 0, 2}, {3, 0, 2}, {-4, 0, 3}, {5, 0, 3}, {1, -1, 0}, {3, -2, 0}, {-1, -5, -4}, {12, -3, 1}, {1, far, far + 1}, {-2, far, far + 2}, {1, -far, 1 - far}, {0, -far, 0},
		{1, far + 1, far + 2}, {0, far + 1, 0}, {1, math.MinInt, math.MinInt + 1}, {7, math.MaxInt - 3, math.MaxInt}, {7, math.MaxInt - 2, math.MaxInt}, {-1, math.MaxInt, math.MaxInt}} {
		if got := dyad.Top(small(c.m, c.e)); got != c.want {
			t.Errorf("Top of %dp%d = %d, want %d", c.m, c.e, got, c.want)
		}
	}
	for _, a := range slices.Concat(someDyads(), zeros(), tooFar()) {
		x := valueOf(a)
		want := 0
		if x.m.Sign() != 0 {
			want = x.m.BitLen() + x.e
		}
		if got := dyad.Top(a); got != want {
			t.Errorf("Top of %s = %d, want %d", shown(a), got, want)
		}
	}
}

func compares(t *testing.T, a, b api.Dyad) {
	t.Helper()
	want := valueOf(a).compare(valueOf(b))
	if got, e := dyad.Cmp(a, b); got != want || e != api.OK {
		t.Errorf("Cmp of %s = %d, error %d, want %d", shown(a, b), got, e, want)
	}
}

// P5.1: the order, also of numbers whose exponents are further apart than there are bits, and of those that are valid, but not when they are normal.
func TestCmp(t *testing.T) {
	l := slices.Concat(someDyads(), tooFar(), zeros()[:20])
	for _, n := range []*big.Int{allOnes(maxBits), plus(pow2(maxBits-1), 1), plus(pow2(maxBits-1), 3)} {
		l = append(l, dyadOf(n, -maxBits+1), dyadOf(negative(n), -maxBits+1), dyadOf(n, far), dyadOf(n, -far))
	}
	l = append(l, small(1, far-1), small(-1, far-1), small(1, -far+1), small(1, maxBits), small(-1, -maxBits))
	for _, a := range l {
		for _, b := range l {
			compares(t, a, b)
		}
	}
	anyPairs(51, 20000, 6, func(a, b api.Dyad) { compares(t, a, b) })
}

// The errors' order: a number that is not valid comes first, whatever else is wrong, or would make the answer plain.
func TestNotValid(t *testing.T) {
	singles := map[string]func(a api.Dyad) (api.Dyad, api.Errno){
		"Norm":     dyad.Norm,
		"Neg":      dyad.Neg,
		"Scale":    func(a api.Dyad) (api.Dyad, api.Errno) { return dyad.Scale(a, 0) },
		"Scale up": func(a api.Dyad) (api.Dyad, api.Errno) { return dyad.Scale(a, 100) },
		"Scale back": func(a api.Dyad) (api.Dyad, api.Errno) {
			return dyad.Scale(a, max(-a.E, -math.MaxInt))
		},
		"Round":           func(a api.Dyad) (api.Dyad, api.Errno) { return dyad.Round(a, 10, false) },
		"Round to 0 bits": func(a api.Dyad) (api.Dyad, api.Errno) { return dyad.Round(a, 0, true) },
		"Grid":            func(a api.Dyad) (api.Dyad, api.Errno) { m, e := dyad.Grid(a, 0); return api.Dyad{M: m}, e },
		"Grid far":        func(a api.Dyad) (api.Dyad, api.Errno) { m, e := dyad.Grid(a, far); return api.Dyad{M: m}, e },
	}
	pairs := map[string]func(a, b api.Dyad) (api.Dyad, api.Errno){
		"Add": dyad.Add, "Sub": dyad.Sub, "Mul": dyad.Mul,
		"Div":           func(a, b api.Dyad) (api.Dyad, api.Errno) { return dyad.Div(a, b, 10, true) },
		"Div to 0 bits": func(a, b api.Dyad) (api.Dyad, api.Errno) { return dyad.Div(a, b, 0, false) },
		"Cmp":           func(a, b api.Dyad) (api.Dyad, api.Errno) { n, e := dyad.Cmp(a, b); return dyad.Of(int64(n)), e },
	}
	for _, a := range notValid() {
		for name, call := range singles {
			got, e := call(a)
			fails(t, api.ErrBig, got, e, name, a)
		}
		for _, b := range append(notValid()[20:45], a, turned(a), api.Dyad{}, api.Dyad{M: api.Int{Neg: true, M: api.Nat{0}}}, small(1, 0), small(-3, 5), dyadOf(allOnes(maxBits), far), small(1, -far)) {
			for name, call := range pairs {
				got, e := call(a, b)
				fails(t, api.ErrBig, got, e, name, a, b)
				got, e = call(b, a)
				fails(t, api.ErrBig, got, e, name, b, a)
			}
		}
		if got := dyad.Text(a); got != "" {
			t.Errorf("Text of %s = %.100s..", shown(a), got)
		}
	}
}

// R5: what is handed in stays, with what is behind it in its memory; what is returned is nobody else's memory.
func TestMemory(t *testing.T) {
	calls := map[string]func(a, b api.Dyad) api.Dyad{
		"Norm":     func(a, b api.Dyad) api.Dyad { x, _ := dyad.Norm(a); return x },
		"Neg":      func(a, b api.Dyad) api.Dyad { x, _ := dyad.Neg(a); return x },
		"Add":      func(a, b api.Dyad) api.Dyad { x, _ := dyad.Add(a, b); return x },
		"Sub":      func(a, b api.Dyad) api.Dyad { x, _ := dyad.Sub(a, b); return x },
		"Mul":      func(a, b api.Dyad) api.Dyad { x, _ := dyad.Mul(a, b); return x },
		"Scale":    func(a, b api.Dyad) api.Dyad { x, _ := dyad.Scale(a, b.E); return x },
		"Round":    func(a, b api.Dyad) api.Dyad { x, _ := dyad.Round(a, 60, false); return x },
		"Round up": func(a, b api.Dyad) api.Dyad { x, _ := dyad.Round(a, 2000, true); return x },
		"Div":      func(a, b api.Dyad) api.Dyad { x, _ := dyad.Div(a, b, 70, true); return x },
		"Grid":     func(a, b api.Dyad) api.Dyad { m, _ := dyad.Grid(a, b.E); return api.Dyad{M: m} },
		"Grid 0":   func(a, b api.Dyad) api.Dyad { m, _ := dyad.Grid(a, a.E); return api.Dyad{M: m} },
		"made":     func(a, b api.Dyad) api.Dyad { return dyad.Of(-5) },
		"read":     func(a, b api.Dyad) api.Dyad { x, _ := dyad.Parse("-5p7"); return x },
		"rest": func(a, b api.Dyad) api.Dyad {
			dyad.Sign(a)
			dyad.Top(a)
			dyad.Cmp(a, b)
			dyad.Text(a)
			return api.Dyad{}
		},
	}
	l := []api.Nat{nil, {0}, {1}, {6}, {9, 0}, {ones}, {0, 1}, {ones, ones, 0, 0}, {5, 0, top}, {1, 2, 3, 4, 5, 6}, {0, 0, 0, 12}}
	for name, call := range calls {
		for _, m := range l {
			for _, n := range l {
				for k := range 4 {
					memoryStays(t, name, call, api.Dyad{M: api.Int{Neg: k&1 > 0, M: m}, E: k}, api.Dyad{M: api.Int{Neg: k&2 > 0, M: n}, E: 2*len(m) - k})
				}
			}
		}
	}
}

func memoryStays(t *testing.T, name string, call func(a, b api.Dyad) api.Dyad, a, b api.Dyad) {
	t.Helper()
	behind := api.Nat{11, 12, 13, 14, 15, 16, 17, 18}
	ground := slices.Concat(a.M.M, behind, b.M.M, behind)
	before := slices.Clone(ground)
	x := api.Dyad{M: api.Int{Neg: a.M.Neg, M: ground[:len(a.M.M)]}, E: a.E}
	y := api.Dyad{M: api.Int{Neg: b.M.Neg, M: ground[len(a.M.M)+len(behind):][:len(b.M.M)]}, E: b.E}
	first := call(x, y)
	value := valueOf(first)
	room := first.M.M[:cap(first.M.M)]
	for i := range room {
		room[i] = 0xdead
	}
	if !slices.Equal(ground, before) {
		t.Errorf("%s of %s: what was handed in, or what is behind it, was changed", name, shown(a, b))
	}
	if again := call(x, y); valueOf(again).compare(value) != 0 {
		t.Errorf("%s of %s: another answer the second time", name, shown(a, b))
	}
}
