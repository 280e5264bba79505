package nat_test

import (
	"math"
	"math/big"
	"math/rand/v2"
	"slices"
	"testing"

	"stepstone/api"
	"stepstone/nat"
)

const (
	ones    = math.MaxUint64
	half    = uint64(1) << 63
	maxBits = 64 * api.MaxLimbs
)

// bigOf is the number, by shifts that the program does not share.
func bigOf(a api.Nat) *big.Int {
	words := make([]byte, 0, 8*len(a))
	for i := len(a) - 1; i >= 0; i-- {
		for n := 56; n >= 0; n -= 8 {
			words = append(words, byte(a[i]>>n))
		}
	}
	return new(big.Int).SetBytes(words)
}

// natOf is the number's limbs, normal.
func natOf(n *big.Int) api.Nat {
	var a api.Nat
	limb := new(big.Int)
	for rest := new(big.Int).Set(n); rest.Sign() > 0; rest.Rsh(rest, 64) {
		a = append(a, limb.And(rest, new(big.Int).SetUint64(ones)).Uint64())
	}
	return a
}

func pow2(n int) *big.Int { return new(big.Int).Lsh(big.NewInt(1), uint(n)) }

func plus(n *big.Int, d int64) *big.Int { return new(big.Int).Add(n, big.NewInt(d)) }

func pow10(n int) *big.Int { return new(big.Int).Exp(big.NewInt(10), big.NewInt(int64(n)), nil) }

// allOnes is the greatest number of so many limbs.
func allOnes(n int) api.Nat { return slices.Repeat(api.Nat{ones}, n) }

// zeros are the ways of writing 0.
func zeros() []api.Nat {
	return []api.Nat{nil, {}, {0}, {0, 0}, make(api.Nat, 2048), make(api.Nat, 2049), make(api.Nat, 5000), api.Nat{7, 7}[:0]}
}

// tooLongs are numbers that are too long.
func tooLongs() []api.Nat {
	one := make(api.Nat, 2049)
	one[2048] = 1
	padded := make(api.Nat, 2100)
	padded[2048] = 1
	return []api.Nat{one, padded, allOnes(2049), allOnes(5000)}
}

// fewNumbers are short ones next to where a limb ends, each sort of limb in each place.
func fewNumbers() []api.Nat {
	l := []api.Nat{nil, {1}, {2}, {3}, {10}, {12}, {18}, {99}, {1<<32 - 1}, {1 << 32}, {half - 1}, {half}, {ones - 1}, {ones}}
	limbs := []uint64{0, 1, half - 1, half, ones - 1, ones}
	for _, low := range limbs {
		for _, high := range limbs[1:] {
			l = append(l, api.Nat{low, high})
			for _, mid := range []uint64{0, 1, half, ones} {
				l = append(l, api.Nat{low, mid, high})
			}
		}
	}
	return l
}

// someNumbers has those, and longer ones of several kinds.
func someNumbers() []api.Nat {
	g := rand.New(rand.NewPCG(3, 64))
	l := fewNumbers()
	for _, n := range []int{3, 4, 5, 7, 8, 31, 32, 33, 64} {
		one := make(api.Nat, n)
		one[n-1] = 1
		l = append(l, allOnes(n), one, anyNat(g, n, 0), anyNat(g, n, 1), anyNat(g, n, 2))
	}
	return l
}

// anyNat is a number of so many limbs, some of which may be 0 on top: of any limbs, of limbs next to the ends, of limbs most of which are 0.
func anyNat(g *rand.Rand, n, kind int) api.Nat {
	edges := []uint64{0, 1, 2, half - 1, half, half + 1, ones - 1, ones}
	a := make(api.Nat, n)
	for i := range a {
		switch kind {
		case 0:
			a[i] = g.Uint64()
		case 1:
			a[i] = edges[g.IntN(len(edges))]
		default:
			if g.IntN(3) == 0 {
				a[i] = g.Uint64() >> g.IntN(64)
			}
		}
	}
	return a
}

// anyPairs calls for many pairs of numbers of up to so many limbs, among them often such of which one divides the other, or that are near to each other.
func anyPairs(seed uint64, count, most int, f func(a, b api.Nat)) {
	g := rand.New(rand.NewPCG(3, seed))
	for range count {
		a, b := anyNat(g, g.IntN(most+1), g.IntN(3)), anyNat(g, g.IntN(most+1), g.IntN(3))
		switch g.IntN(6) {
		case 0:
			b = slices.Clone(a)
			if len(b) > 0 {
				b[g.IntN(len(b))] ^= 1 << g.IntN(64)
			}
		case 1:
			p := new(big.Int).Mul(bigOf(a), bigOf(b))
			a = natOf(plus(p, int64(g.IntN(2))))
		}
		f(a, b)
	}
}

// isNat checks a result: its value, that it is normal, that there was no error.
func isNat(t *testing.T, want *big.Int, got api.Nat, e api.Errno, what string, of ...api.Nat) {
	t.Helper()
	if e != api.OK {
		t.Errorf("%s of %s: error %d", what, shown(of), e)
	} else if n := len(got); n > 0 && got[n-1] == 0 {
		t.Errorf("%s of %s: not normal: %d limbs, those on top are 0", what, shown(of), n)
	} else if bigOf(got).Cmp(want) != 0 {
		t.Errorf("%s of %s = %s, want %s", what, shown(of), shown([]api.Nat{got}), shown([]api.Nat{natOf(want)}))
	}
}

// fails checks that there is that error, and nothing else.
func fails(t *testing.T, want api.Errno, got api.Nat, e api.Errno, what string, of ...api.Nat) {
	t.Helper()
	if e != want || len(got) != 0 {
		t.Errorf("%s of %s: error %d and %d limbs, want error %d and none", what, shown(of), e, len(got), want)
	}
}

// shown is numbers as far as a message has room for them.
func shown(l []api.Nat) string {
	s := ""
	for _, a := range l {
		text := bigOf(a).Text(16)
		if len(text) > 100 {
			text = text[:40] + ".." + text[len(text)-40:]
		}
		s += " 0x" + text
	}
	return "(" + s + " )"
}

// norm is a shorthand where there can be no error.
func norm(a api.Nat) api.Nat {
	out, _ := nat.Norm(a)
	return out
}
