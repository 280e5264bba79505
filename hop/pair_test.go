package hop_test

import (
	"strings"
	"testing"

	"stepstone/api"
	"stepstone/bits"
	"stepstone/hop"
)

// Each of these asks the package and the model the same.

// inside is what Inside returns; it is asked twice.
func inside(t *testing.T, q []api.Int, grid, box int) bool {
	t.Helper()
	want := isInside(q, grid, box)
	for range 2 {
		if got := hop.Inside(q, grid, box); got != want {
			t.Fatalf("Inside of %s, grid %d, box %d: %v, want %v", shownInts(q), grid, box, got, want)
		}
	}
	return want
}

func insideIs(t *testing.T, what string, q []api.Int, grid, box int, want bool) {
	t.Helper()
	if got := inside(t, q, grid, box); got != want {
		t.Errorf("%s: Inside of %s, grid %d, box %d: %v", what, shownInts(q), grid, box, got)
	}
}

// asked is what Hop tells.
func asked(t *testing.T, s *bits.Source, x api.Tape, f api.Frog, box int, q []api.Int) answer {
	t.Helper()
	place, v, e := hop.Hop(s, x, f, box, q)
	got := answer{v: v, e: e, read: s.Read(), dry: s.Dry()}
	if e == api.OK {
		got.place = shownInts(place)
	}
	if e != api.OK && (place != nil || v != api.VdNone) || e == api.OK && (len(place) != x.Pars || !isNormalList(place)) {
		t.Fatalf("Hop of %s, %s, box %d, from %s: %v, %d, %d", shownTape(x), shownWay(f), box, shownInts(q), place, v, e)
	}
	return got
}

// hopped is what Hop tells of a source, and of a copy of it.
func hopped(t *testing.T, s *bits.Source, x api.Tape, f api.Frog, box int, q []api.Int, seen reached) answer {
	t.Helper()
	want, read, dry := hopBy(s, x, f, box, q, seen), s.Read(), s.Dry()
	other := s.Copy()
	got := asked(t, s, x, f, box, q)
	if got != want {
		t.Fatalf("Hop of %s, %s, box %d, from %s: %+v, want %+v", shownTape(x), shownWay(f), box, shownInts(q), got, want)
	}
	if other.Read() != read || other.Dry() != dry {
		t.Fatal("a source's copy has read what it did")
	}
	if got := asked(t, other, x, f, box, q); got != want {
		t.Fatalf("Hop of a copy: %+v, want %+v", got, want)
	}
	return got
}

// hoppedBy is what Hop tells of a source of which just this row of bits is left, by how many of these it has read.
func hoppedBy(t *testing.T, row string, x api.Tape, f api.Frog, box int, q []api.Int, seen reached) answer {
	t.Helper()
	s, ahead := rowOf(t, strings.ReplaceAll(row, " ", ""))
	got := hopped(t, s, x, f, box, q, seen)
	got.read -= ahead
	return got
}

func taken(read int, q ...int64) answer {
	return answer{place: shownInts(ints(q...)), v: api.VdTaken, read: read}
}

func left(read int, q ...int64) answer {
	return answer{place: shownInts(ints(q...)), v: api.VdLeft, read: read}
}

func outside(read int, q ...int64) answer {
	return answer{place: shownInts(ints(q...)), v: api.VdOutside, read: read}
}

func dryAt(read int) answer { return answer{e: api.ErrDry, read: read, dry: true} }

func refused(e api.Errno) answer { return answer{e: e} }

// hopIs asks whether a row of bits has that answer, as it was found by hand; if there is no error, whether each of its beginnings that is shorter than what was read is too short, and whether further bits change nothing.
func hopIs(t *testing.T, what, row string, x api.Tape, f api.Frog, box int, q []api.Int, want answer) {
	t.Helper()
	row = strings.ReplaceAll(row, " ", "")
	if got := hoppedBy(t, row, x, f, box, q, reached{}); got != want {
		t.Errorf("%s: Hop of %s, %s, box %d, from %s, by %s: %+v, want %+v", what, shownTape(x), shownWay(f), box, shownInts(q), cut(row), got, want)
		return
	}
	if want.e != api.OK {
		return
	}
	for n := range want.read {
		if got := hoppedBy(t, row[:n], x, f, box, q, reached{}); got != dryAt(n) {
			t.Errorf("%s: Hop by %d bits of %s: %+v", what, n, cut(row), got)
		}
	}
	for _, more := range []string{"", "0", "1", "0101101", strings.Repeat("1", 70)} {
		if got := hoppedBy(t, row[:want.read]+more, x, f, box, q, reached{}); got != want {
			t.Errorf("%s: Hop by %s and %s: %+v", what, cut(row[:want.read]), more, got)
		}
	}
}
