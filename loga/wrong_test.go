package loga_test

import (
	"slices"
	"testing"

	"stepstone/api"
	"stepstone/loga"
)

// badPrecisions are those that no result is told to.
func badPrecisions() []int { return slices.Concat(coarsePrecisions(), noPrecisions()) }

func logFails(t *testing.T, want api.Errno, a api.Dyad, p int) {
	t.Helper()
	for _, up := range directions() {
		got, e := loga.Log(a, p, up)
		fails(t, want, got, e, "Log", a, p)
	}
}

// P10.1: what is not fine is ErrBig, whatever p is, and on whatever side of 0 it is: that counts first.
func TestLogNotFine(t *testing.T) {
	for _, a := range slices.Concat(notFine(), notValid()) {
		for _, p := range allPrecisions() {
			logFails(t, api.ErrBig, a, p)
		}
	}
}

// P10.1: what is fine, but not above 0, is ErrArg, whatever p is.
func TestLogNotAboveZero(t *testing.T) {
	for _, a := range notAboveZero() {
		for _, p := range allPrecisions() {
			logFails(t, api.ErrArg, a, p)
		}
	}
}

// P10.1: a p that is none, or only other layers', is ErrArg, also for 1.
func TestLogPrecision(t *testing.T) {
	for _, a := range slices.Concat(someFine(), ones()) {
		for _, p := range badPrecisions() {
			logFails(t, api.ErrArg, a, p)
		}
	}
}

// P10.1: it is the normal number that is fine or not: limbs and exponents count as they are then, and one of each more is one too many.
func TestLogLimits(t *testing.T) {
	for _, n := range []int{1, 63, 64, 65, maxBits - fewBits - 1} {
		for _, p := range []int{1, fine, 0} {
			// One limb more than there may be, and bits behind it that do not count.
			logFails(t, api.ErrBig, shifted(written(allOnes(fewBits+1), -fine), n), p)
			logFails(t, api.ErrBig, shifted(small(1, fine+1), n), p)
			logFails(t, api.ErrBig, shifted(small(1, -fine-1), n), p)
		}
	}
	by := newModel()
	for _, n := range []int{1, 63, 64, 65, maxBits - fewBits} {
		by.check(t, shifted(written(allOnes(fewBits), -fine), n), 10)
		by.check(t, shifted(small(1, fine), n), 10)
		by.check(t, shifted(small(1, -fine), n), 10)
		by.check(t, padded(shifted(small(3, -fine), n), 3), 10)
	}
}

// P10.1: the zero values of all arguments.
func TestLogZeroValues(t *testing.T) {
	logFails(t, api.ErrArg, api.Dyad{}, 0)
	logFails(t, api.ErrArg, api.Dyad{}, 1)
	if got := loga.Of(api.Ivl{}, 0); !same(got, unknown()) {
		t.Errorf("Of of nothing = %s", shownIvl(got))
	}
}
