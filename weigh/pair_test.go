package weigh_test

import (
	"math/big"
	"slices"
	"strings"
	"testing"

	"stepstone/api"
	"stepstone/bits"
	"stepstone/weigh"
)

// Each of these asks the package and the model the same.

// weight is what Weight returns; it is asked twice.
func weight(t *testing.T, f api.Frog, p []api.Int) (*big.Rat, api.Errno) {
	t.Helper()
	want, e := weightBy(f, p)
	for range 2 {
		got, e2 := weigh.Weight(f, p)
		if e2 != e {
			t.Fatalf("Weight of %s, %s: error %d, want %d", shownWay(f), shownInts(p), e2, e)
		}
		if e != api.OK {
			if got.N.Neg || got.N.M != nil || got.D != nil {
				t.Fatalf("%v beside the error %d", got, e)
			}
			continue
		}
		if !isNormal(got.N) || bigOf(got.N).Cmp(want.Num()) != 0 || !slices.Equal(got.D, natOf(want.Denom())) {
			t.Fatalf("Weight of %s, %s: %s, want %s", shownWay(f), shownInts(p), cut(valid(got).String()), cut(want.String()))
		}
	}
	return want, e
}

func weightIs(t *testing.T, what string, f api.Frog, p []api.Int, want *big.Rat) {
	t.Helper()
	if got, e := weight(t, f, p); e != api.OK || got.Cmp(want) != 0 {
		t.Errorf("%s: Weight of %s, %s: %v, %d, want %s", what, shownWay(f), shownInts(p), got, e, cut(want.String()))
	}
}

func weightFails(t *testing.T, what string, want api.Errno, f api.Frog, p []api.Int) {
	t.Helper()
	if _, e := weight(t, f, p); e != want {
		t.Errorf("%s: Weight of %s, %s: error %d, want %d", what, shownWay(f), shownInts(p), e, want)
	}
}

// gain is what Gain returns; it is asked twice.
func gain(t *testing.T, x api.Tape, f api.Frog, a, b api.State, level int) (api.Ivl, api.Errno) {
	t.Helper()
	e, want := accepted(x, f, a, b), api.Ivl{}
	switch {
	case e == api.OK && (level < 0 || level > mostLevel):
		e = api.ErrArg
	case e == api.OK:
		want = gainBy(x, f, a, b, level)
	}
	for range 2 {
		got, e2 := weigh.Gain(x, f, a, b, level)
		if e2 != e || !sameIvl(got, want) || !isNormalIvl(got) {
			t.Fatalf("Gain of %s, %s,%s, level %d: %s, %d, want %s, %d", shownTape(x), shownWay(f), shownStates(a, b), level, shownIvl(got), e2, shownIvl(want), e)
		}
	}
	return want, e
}

func gainIs(t *testing.T, what string, x api.Tape, f api.Frog, a, b api.State, level int, want api.Ivl) {
	t.Helper()
	if got, e := gain(t, x, f, a, b, level); e != api.OK || !sameIvl(got, want) {
		t.Errorf("%s: Gain of %s, %s,%s, level %d: %s, %d, want %s", what, shownTape(x), shownWay(f), shownStates(a, b), level, shownIvl(got), e, shownIvl(want))
	}
}

func gainFails(t *testing.T, what string, want api.Errno, x api.Tape, f api.Frog, a, b api.State, level int) {
	t.Helper()
	if _, e := gain(t, x, f, a, b, level); e != want {
		t.Errorf("%s: Gain of %s, %s,%s, level %d: error %d, want %d", what, shownTape(x), shownWay(f), shownStates(a, b), level, e, want)
	}
}

// weighed is what Weigh tells of a source of which just this row of bits is left, by how many of these it has read.
func weighed(t *testing.T, row string, x api.Tape, f api.Frog, a, b api.State, seen reached) answer {
	t.Helper()
	row = strings.ReplaceAll(row, " ", "")
	want := answer{e: accepted(x, f, a, b)}
	if want.e == api.OK {
		want = weighBy(row, x, f, a, b, seen)
	}
	s, ahead := rowOf(t, row)
	other := s.Copy()
	got := asked(s, x, f, a, b, ahead)
	if got != want {
		t.Fatalf("Weigh of %s, %s,%s, by %s: %+v, want %+v", shownTape(x), shownWay(f), shownStates(a, b), cut(row), got, want)
	}
	if other.Read() != ahead || other.Dry() {
		t.Fatal("a source's copy has read what it did")
	}
	if got := asked(other, x, f, a, b, ahead); got != want {
		t.Fatalf("Weigh of a copy: %+v, want %+v", got, want)
	}
	return got
}

// asked is what Weigh tells, as much as the source had read ahead left out.
func asked(s *bits.Source, x api.Tape, f api.Frog, a, b api.State, ahead int) answer {
	v, e := weigh.Weigh(s, x, f, a, b)
	return answer{v, e, s.Read() - ahead, s.Dry()}
}

func taken(read int) answer { return answer{v: api.VdTaken, read: read} }

func left(read int) answer { return answer{v: api.VdLeft, read: read} }

func dryAt(read int) answer { return answer{e: api.ErrDry, read: read, dry: true} }

func stuck() answer { return answer{e: api.ErrStuck} }

func refused(e api.Errno) answer { return answer{e: e} }

// weighIs asks whether a row of bits has that answer, as it was found by hand; if it is a verdict, whether each beginning that is shorter than what was read is too short, and whether further bits change nothing.
func weighIs(t *testing.T, what, row string, x api.Tape, f api.Frog, a, b api.State, want answer) {
	t.Helper()
	row = strings.ReplaceAll(row, " ", "")
	if got := weighed(t, row, x, f, a, b, reached{}); got != want {
		t.Errorf("%s: Weigh of %s, %s,%s, by %s: %+v, want %+v", what, shownTape(x), shownWay(f), shownStates(a, b), cut(row), got, want)
		return
	}
	if want.e != api.OK {
		return
	}
	for _, n := range []int{0, 1, 2, 3, want.read / 2, want.read - 2, want.read - 1} {
		if n < 0 || n >= want.read {
			continue
		}
		if got := weighed(t, row[:n], x, f, a, b, reached{}); got != dryAt(n) {
			t.Errorf("%s: Weigh by %d bits of %s: %+v", what, n, cut(row), got)
		}
	}
	for _, more := range []string{"", "0", "1", "0101101", strings.Repeat("1", 70)} {
		if got := weighed(t, row[:want.read]+more, x, f, a, b, reached{}); got != want {
			t.Errorf("%s: Weigh by %s and %s: %+v", what, cut(row[:want.read]), more, got)
		}
	}
}
