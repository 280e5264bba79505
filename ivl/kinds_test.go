package ivl_test

import (
	"math"
	"slices"
	"testing"

	"stepstone/api"
	"stepstone/ivl"
)

// one is a call with one interval, to p bits or not.
type one struct {
	name    string
	do      func(a api.Ivl, p int) api.Ivl
	rounded bool
}

func singles() []one {
	return []one{
		{"Neg", func(a api.Ivl, _ int) api.Ivl { return ivl.Neg(a) }, false},
		{"Need", func(a api.Ivl, _ int) api.Ivl { return ivl.Need(a) }, false},
		{"Sqr", ivl.Sqr, true},
	}
}

// pairs are the calls with two intervals, but for Both.
func pairs() []call {
	return slices.DeleteFunc(calls(), func(c call) bool { return !c.two })
}

func precisions() []int { return []int{1, 2, 64, api.MaxPrec} }

// wrongPrecisions are none.
func wrongPrecisions() []int {
	return []int{0, -1, -64, api.MaxPrec + 1, 2 * api.MaxPrec, math.MaxInt, math.MinInt, math.MinInt + 1}
}

func allPrecisions() []int { return append(precisions(), wrongPrecisions()...) }

// isOfKinds checks a call with intervals of which at least one is without bounds, or not valid: what is known of the others does not matter then, nor does p.
func isOfKinds(t *testing.T, c call, want, a, b api.Ivl) {
	t.Helper()
	for _, p := range allPrecisions() {
		is(t, want, c.do(a, b, p), c.name, a, b)
	}
}

// Words, of calls with intervals: IvUndef ahead of IvUnknown, both ahead of what is computed, and of a p that is not valid.
func TestKinds(t *testing.T) {
	for _, c := range pairs() {
		isOfKinds(t, c, undef(), undef(), undef())
		isOfKinds(t, c, undef(), undef(), unknown())
		isOfKinds(t, c, undef(), unknown(), undef())
		isOfKinds(t, c, unknown(), unknown(), unknown())
		for _, a := range slices.Concat(knowns("0 0", "1 1", "-1 2", "-5 0", "0 7", "1p1048576 1p1048576"), extreme()[:3]) {
			isOfKinds(t, c, undef(), undef(), a)
			isOfKinds(t, c, undef(), a, undef())
			isOfKinds(t, c, unknown(), unknown(), a)
			isOfKinds(t, c, unknown(), a, unknown())
		}
	}
	for _, c := range singles() {
		for _, p := range allPrecisions() {
			is(t, undef(), c.do(undef(), p), c.name, undef())
			is(t, unknown(), c.do(unknown(), p), c.name, unknown())
		}
	}
}

// Words, of calls with intervals: one that is not valid comes first, even ahead of IvUndef.
func TestNotValid(t *testing.T) {
	for _, a := range notValid() {
		for _, c := range pairs() {
			for _, p := range []int{64, 0} {
				for _, b := range append(knowns("?", "!", "0 0", "1 2", "-1 1"), a, notValid()[1]) {
					is(t, unknown(), c.do(a, b, p), c.name, a, b)
					is(t, unknown(), c.do(b, a, p), c.name, b, a)
				}
			}
		}
		for _, c := range singles() {
			is(t, unknown(), c.do(a, 64), c.name, a)
			is(t, unknown(), c.do(a, 0), c.name, a)
		}
		for _, b := range append(knowns("?", "!", "0 0", "1 2", "-1 1"), a, notValid()[1]) {
			is(t, unknown(), ivl.Both(a, b), "Both", a, b)
			is(t, unknown(), ivl.Both(b, a), "Both", b, a)
		}
	}
}

// Words, of calls with intervals: a p that is not 1 to MaxPrec, also where the result is plain, or has no bounds.
func TestWrongPrecision(t *testing.T) {
	l := knowns("0 0", "1 1", "-1 2", "0 3", "-3 0", "1p1048576 1p1048576")
	for _, p := range wrongPrecisions() {
		for _, a := range l {
			for _, b := range l {
				for _, c := range pairs() {
					is(t, unknown(), c.do(a, b, p), c.name, a, b)
				}
			}
			for _, c := range singles() {
				if c.rounded {
					is(t, unknown(), c.do(a, p), c.name, a)
				}
			}
		}
	}
}

// P7.6: Lo of 0 and just above it, Hi of 0, just above and just below it.
func TestNeed(t *testing.T) {
	for _, c := range []struct{ a, want string }{
		{"1 2", "0 0"}, {"1p-1048576 1", "0 0"}, {"1p-1048576 1p-1048576", "0 0"}, {"7p1048576 7p1048576", "0 0"}, {"3 3", "0 0"},
		{"0 0", "!"}, {"-1 0", "!"}, {"-2 -1", "!"}, {"-1 -1p-1048576", "!"}, {"-1p-1048576 0", "!"}, {"-1p-1048576 -1p-1048576", "!"}, {"-5 -5", "!"},
		{"0 1", "?"}, {"0 1p-1048576", "?"}, {"-1 1p-1048576", "?"}, {"-1p-1048576 1p-1048576", "?"}, {"-1 1", "?"}, {"-1p-1048576 3p1048576", "?"}, {"?", "?"}, {"!", "!"},
	} {
		is(t, known(c.want), ivl.Need(known(c.a)), "Need", known(c.a))
	}
	for _, a := range slices.Concat(ordinary(), extreme()) {
		want := unknown()
		if value(a.Lo).Sign() > 0 {
			want = known("0 0")
		} else if value(a.Hi).Sign() <= 0 {
			want = undef()
		}
		is(t, want, ivl.Need(a), "Need", a)
	}
}

// P7.7: intervals that touch, have no number in common, of which one is inside the other, or that are equal; and such without bounds.
func TestBothByHand(t *testing.T) {
	for _, c := range []struct{ a, b, want string }{
		{"1 3", "2 4", "2 3"}, {"1 2", "2 3", "2 2"}, {"1 2", "3 4", "!"}, {"1 2", "9p-2 4", "!"}, {"1 2", "1 2", "1 2"}, {"1 4", "2 3", "2 3"}, {"1 4", "1 3", "1 3"}, {"1 4", "2 4", "2 4"}, {"1 4", "4 4", "4 4"}, {"1 4", "1 1", "1 1"}, {"1 4", "3 3", "3 3"}, {"1 4", "5 5", "!"}, {"3 3", "3 3", "3 3"}, {"3 3", "5 5", "!"},
		{"-3 -1", "-2 4", "-2 -1"}, {"-3 0", "0 4", "0 0"}, {"-3 -1p-1048576", "0 4", "!"}, {"-3 4", "0 0", "0 0"}, {"-1p1048576 1p1048576", "-1p-1048576 1p-1048576", "-1p-1048576 1p-1048576"}, {"-1p1048576 1p-1048576", "-1p-1048576 1p1048576", "-1p-1048576 1p-1048576"},
		{"?", "?", "?"}, {"?", "1 2", "1 2"}, {"?", "0 0", "0 0"}, {"?", "-7p9 3p1048576", "-7p9 3p1048576"}, {"!", "1 2", "!"}, {"!", "0 0", "!"}, {"!", "?", "!"}, {"!", "!", "!"},
	} {
		is(t, known(c.want), ivl.Both(known(c.a), known(c.b)), "Both", known(c.a), known(c.b))
		is(t, known(c.want), ivl.Both(known(c.b), known(c.a)), "Both", known(c.b), known(c.a))
	}
}

// P7.7: the greater Lo and the lesser Hi, of all pairs.
func TestBoth(t *testing.T) {
	l := slices.Concat(ordinary(), extreme())
	for _, a := range l {
		is(t, a, ivl.Both(a, a), "Both", a, a)
		is(t, a, ivl.Both(a, unknown()), "Both", a, unknown())
		for _, b := range l {
			want := a
			if value(b.Lo).Cmp(value(a.Lo)) > 0 {
				want.Lo = b.Lo
			}
			if value(b.Hi).Cmp(value(a.Hi)) < 0 {
				want.Hi = b.Hi
			}
			if value(want.Lo).Cmp(value(want.Hi)) > 0 {
				want = undef()
			}
			is(t, want, ivl.Both(a, b), "Both", a, b)
		}
	}
}
