package frog_test

import (
	"math/big"
	"slices"
	"testing"

	"stepstone/api"
	"stepstone/frog"
)

// Each of these asks the package and the model the same.

func sameInts(a []api.Int, b []*big.Int) bool {
	return slices.EqualFunc(a, b, func(x api.Int, n *big.Int) bool { return isNormal(x) && bigOf(x).Cmp(n) == 0 })
}

// sameFracs tells whether numbers are those, in lowest terms, in the one way to write them.
func sameFracs(a []api.Frac, b []*big.Rat) bool {
	return slices.EqualFunc(a, b, func(x api.Frac, y *big.Rat) bool {
		return isNormal(x.N) && bigOf(x.N).Cmp(y.Num()) == 0 && slices.Equal(x.D, natOf(y.Denom()))
	})
}

func check(t *testing.T, x api.Tape, f api.Frog) api.Errno {
	t.Helper()
	want := checked(x, f)
	if e := frog.Check(x, f); e != want {
		t.Errorf("Check of %s, %s: %d, want %d", shownTape(x), shownWay(f), e, want)
	}
	return want
}

// numbersOf is the slopes' numbers, which are asked for twice.
func numbersOf(t *testing.T, x api.Tape, f api.Frog, q []api.Int) ([]*big.Rat, api.Errno) {
	t.Helper()
	want := accepted(x, f, q)
	var all []*big.Rat
	if want == api.OK {
		all = numbersAt(x, f, bigsOf(q))
	}
	for range 2 {
		got, e := frog.Numbers(x, f, q)
		if e != want || !sameFracs(got, all) {
			t.Fatalf("Numbers of %s, %s, %s: %v, %d, want %s, %d", shownTape(x), shownWay(f), shownInts(bigsOf(q)), got, e, shownFracs(all), want)
		}
		if e != api.OK && got != nil {
			t.Fatal("a list beside an error")
		}
	}
	return all, want
}

// move is a move, told as it was returned.
func move(t *testing.T, x api.Tape, f api.Frog, at, by []api.Int) ([]api.Int, []api.Int, api.Errno) {
	t.Helper()
	wantQ, wantP, want := movedTo(x, f, at, by)
	q, p, e := frog.Move(x, f, at, by)
	if e != want || !sameInts(q, wantQ) || !sameInts(p, wantP) {
		t.Fatalf("Move of %s, %s, %s, %s: %s, %s, %d, want %s, %s, %d", shownTape(x), shownWay(f), shownInts(bigsOf(at)), shownInts(bigsOf(by)),
			shownInts(bigsOf(q)), shownInts(bigsOf(p)), e, shownInts(wantQ), shownInts(wantP), want)
	}
	if e != api.OK && (q != nil || p != nil) {
		t.Fatal("a list beside an error")
	}
	return q, p, e
}

// moveIs asks whether a move leads there, as it was computed by hand.
func moveIs(t *testing.T, what string, x api.Tape, f api.Frog, at, by, q, p []api.Int) {
	t.Helper()
	gotQ, gotP, e := move(t, x, f, at, by)
	if e != api.OK || !sameInts(gotQ, bigsOf(q)) || !sameInts(gotP, bigsOf(p)) {
		t.Errorf("%s: Move of %s, %s, %s, %s: %s, %s, %d, want %s, %s", what, shownTape(x), shownWay(f), shownInts(bigsOf(at)), shownInts(bigsOf(by)),
			shownInts(bigsOf(gotQ)), shownInts(bigsOf(gotP)), e, shownInts(bigsOf(q)), shownInts(bigsOf(p)))
	}
}

func moveFails(t *testing.T, what string, want api.Errno, x api.Tape, f api.Frog, at, by []api.Int) {
	t.Helper()
	if _, _, e := move(t, x, f, at, by); e != want {
		t.Errorf("%s: Move of %s, %s, %s, %s: %d, want %d", what, shownTape(x), shownWay(f), shownInts(bigsOf(at)), shownInts(bigsOf(by)), e, want)
	}
}

// numbersAre asks whether the slopes' numbers are those that were computed by hand.
func numbersAre(t *testing.T, what string, x api.Tape, f api.Frog, q []api.Int, want ...*big.Rat) {
	t.Helper()
	if got, e := numbersOf(t, x, f, q); e != api.OK || !slices.EqualFunc(got, want, func(a, b *big.Rat) bool { return a.Cmp(b) == 0 }) {
		t.Errorf("%s: Numbers of %s, %s, %s: %s, %d, want %s", what, shownTape(x), shownWay(f), shownInts(bigsOf(q)), shownFracs(got), e, shownFracs(want))
	}
}
