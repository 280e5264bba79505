package expo_test

import (
	"math/big"
	"slices"
	"testing"

	"stepstone/api"
	"stepstone/expo"
)

func fines(t *testing.T, want bool, a api.Dyad) {
	t.Helper()
	if got := expo.Fine(a); got != want {
		t.Errorf("Fine of %s = %v", shown(a), got)
	}
}

// someFine are numbers that are fine, many just so.
func someFine() []api.Dyad {
	l := []api.Dyad{small(1, 0), small(3, 7), small(1<<40+1, -900)}
	for _, e := range []int{fine, fine - 1, 0, 1 - fine, -fine} {
		l = append(l, small(1, e), small(3, e), written(allOnes(64), e), written(allOnes(fewBits-64), e), written(plus(pow2(fewBits-64), 1), e), written(allOnes(fewBits), e), written(plus(pow2(fewBits-1), 1), e))
	}
	return bothSigns(l...)
}

// P9.1: numbers of no more limbs, and exponents no farther away, are fine; those of one more are not.
func TestFine(t *testing.T) {
	for _, l := range [][]api.Dyad{someFine(), zeros(), tooGreat(), atTheTop()} {
		for _, a := range l {
			fines(t, true, a)
		}
	}
	for _, l := range [][]api.Dyad{notFine(), notValid()} {
		for _, a := range l {
			fines(t, false, a)
		}
	}
	fines(t, true, api.Dyad{})
}

// P9.1, R7: it is the normal number that is fine or not: the same one written with more limbs, or with another exponent.
func TestFineNotNormal(t *testing.T) {
	for _, n := range []int{1, 2, 63, 64, 65, 1000, fewBits, maxBits - fewBits} {
		for _, x := range []*big.Int{big.NewInt(1), big.NewInt(-3), allOnes(64), allOnes(fewBits)} {
			for _, e := range []int{fine, -fine, 0} {
				fines(t, true, written(new(big.Int).Lsh(x, uint(n)), e-n))
				fines(t, true, padded(written(new(big.Int).Lsh(x, uint(n)), e-n), 1+n%70))
			}
			for _, e := range []int{fine + 1, -fine - 1} {
				fines(t, false, written(new(big.Int).Lsh(x, uint(n)), e-n))
			}
		}
		fines(t, false, written(new(big.Int).Lsh(allOnes(fewBits+1), uint(min(n, maxBits-fewBits-1))), -n))
	}
	fines(t, true, padded(small(5, -2), 30000))
	fines(t, true, small(2, -fine-1))
	fines(t, false, small(2, fine))
	fines(t, true, written(pow2(64), -fine-64))
	fines(t, true, written(pow2(maxBits-1), -maxBits))
	fines(t, true, written(pow2(maxBits-1), fine-maxBits+1))
	fines(t, false, written(pow2(maxBits-1), fine-maxBits+2))
}

// P9.1: what is not fine, or too great, is ErrBig, whatever p is: that counts first.
func TestExpTooBig(t *testing.T) {
	for _, a := range slices.Concat(notFine(), notValid(), tooGreat()) {
		for _, p := range []int{1, 64, fine, fine + 1, 0, -1, api.MaxPrec + 1} {
			for _, up := range directions() {
				got, e := expo.Exp(a, p, up)
				fails(t, api.ErrBig, got, e, "Exp", a, p)
			}
		}
	}
}

// P9.1: a p that is none, or only other layers', is ErrArg.
func TestExpPrecision(t *testing.T) {
	l := []api.Dyad{{}, small(0, far), small(1, 0), small(-1, 0), small(1, -fine), small(-1, -fine), small(4, -2), padded(small(1, 3), 2)}
	for _, a := range append(l, atTheTop()...) {
		for _, p := range slices.Concat(coarsePrecisions(), noPrecisions()) {
			for _, up := range directions() {
				got, e := expo.Exp(a, p, up)
				fails(t, api.ErrArg, got, e, "Exp", a, p)
			}
		}
	}
}
