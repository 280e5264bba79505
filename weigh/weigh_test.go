package weigh_test

import (
	"math/big"
	"slices"
	"strings"
	"testing"

	"stepstone/api"
	"stepstone/bits"
	"stepstone/expo"
	"stepstone/weigh"
)

func zeros(n int) string { return strings.Repeat("0", n) }

func ones(n int) string { return strings.Repeat("1", n) }

// P26.3: the chapter's verdicts.
func TestExamples(t *testing.T) {
	f := gridded(1, 4)
	weighIs(t, "up", "", plain(), f, at(0), at(16), taken(0))
	weighIs(t, "down", "00", plain(), f, at(16), at(0), taken(2))
	weighIs(t, "down", "1", plain(), f, at(16), at(0), left(1))
	weighIs(t, "far down", "001", plain(), f, at(3200000), at(0), left(3))
	weighIs(t, "the same place", "", tapeOf(1, par(0), one(api.NdLog, 0)), f, at(48), at(48), taken(0))
}

// P26.3: gains that are not below 0 take no bit, also those of which layer 9 has no power.
func TestWeighUp(t *testing.T) {
	for _, grid := range []int{0, 4, mostGrid} {
		for _, n := range []*big.Int{new(big.Int), pow2(0), near(31, 1), near(32, 1), near(32, 3), near(60, 1), pow2(80), near(200, 7), near(4000, 1), near(fineBits, -1)} {
			weighIs(t, "up", "", plain(), gridded(1, grid), at(0), api.State{Q: intsOf(n), P: ints(0)}, taken(0))
			weighIs(t, "by the push", "", plain(), gridded(1, grid), api.State{Q: ints(0), P: intsOf(n)}, at(0), taken(0))
		}
	}
	weighIs(t, "two places of one height", "", tapeOf(2, par(0)), way(2), at(3, 5), at(3, 6), taken(0))
	weighIs(t, "up by as much as the push weighs", "", plain(), gridded(1, 1), at(0), api.State{Q: ints(1), P: ints(2)}, taken(0))
	weighIs(t, "a little more", "1", plain(), gridded(1, 1), at(0), api.State{Q: ints(1), P: ints(3)}, answer{e: api.ErrDry, read: 1, dry: true})
	weighIs(t, "no parameter", "", tapeOf(0, number(1, 3)), way(0), at(), at(), taken(0))
}

// power is e to the power of n by d, to the bits of a level.
func power(n, d int64, level int) api.Ivl { return expo.Of(just(n, d), 32*(level+1)) }

// digitsOfPower are those of e to the power of n by d, as many as the last level tells.
func digitsOfPower(n, d int64, count int) string {
	return digitsOf(ratOf(power(n, d, mostLevel).Lo), count)
}

// P26.3: of a gain of -1, bit by bit: the first bit that is not that of e to its power decides.
func TestWeighDown(t *testing.T) {
	f := gridded(1, 4)
	for _, r := range []struct {
		row  string
		want answer
	}{
		// e to the power of -1 is 0.0101 1110 0010 1101 0101..
		{"1", left(1)}, {"00", taken(2)}, {"011", left(3)}, {"0100", taken(4)}, {"01010", taken(5)}, {"010110", taken(6)}, {"0101110", taken(7)},
		{"01011111", left(8)}, {"010111101", left(9)}, {"0101111001", left(10)}, {"01011110000", taken(11)}, {"010111100011", left(12)},
		{"01011110001 00", taken(13)}, {"01011110001 010", taken(14)}, {"01011110001 0111", left(15)},
	} {
		weighIs(t, "by hand", r.row, plain(), f, at(16), at(0), r.want)
	}
	digits := digitsOfPower(-1, 1, 980)
	for n := 1; n <= len(digits); n += 1 + n/20 {
		row, other := digits[:n-1], "1"
		if digits[n-1] == '1' {
			other = "0"
		}
		// Where a level's bits end, a bit more may be read before the next one tells that it was not needed.
		got := weighed(t, row+other+zeros(9), plain(), f, at(16), at(0), reached{})
		if got.v != verdictOf(other) || got.read < n || got.read > n+1 || (n+2)%32 > 3 && got.read > n {
			t.Errorf("%d bits of e to the power of -1, then %s: %+v", n-1, other, got)
		}
		weighIs(t, "too short", row, plain(), f, at(16), at(0), dryAt(n-1))
	}
}

// verdictOf is that of the first bit that is not the power's.
func verdictOf(bit string) api.Verdict {
	if bit == "0" {
		return api.VdTaken
	}
	return api.VdLeft
}

// P26.3: gains next to 0, next to 1, and far below.
func TestWeighNear0(t *testing.T) {
	f := gridded(1, mostGrid)
	// The power is 60 bits of 1, then 60 of 0.
	for _, r := range []struct {
		row  string
		want answer
	}{
		{"0", taken(1)}, {"10", taken(2)}, {ones(30) + "0", taken(31)}, {ones(59) + "0", taken(60)}, {ones(61), left(61)}, {ones(60) + "01", left(62)},
		{ones(60) + zeros(40) + "1", left(101)}, {ones(60) + zeros(59) + "1", left(120)},
	} {
		weighIs(t, "next to 0", r.row, plain(), f, at(1), at(0), r.want)
	}
	// By a push whose mass is that great: the last gain that is fine, and the first that is not.
	heavyBy := func(n int) api.Frog { return massive(whole(pow2(n - 1))) }
	weighIs(t, "the last that is fine", "0", plain(), heavyBy(4000), by(0), by(1), taken(1))
	weighIs(t, "the last that is fine", ones(20)+"0", plain(), heavyBy(4000), by(0), by(1), taken(21))
	weighIs(t, "the last that is fine", ones(2000), plain(), heavyBy(4000), by(0), by(1), stuck())
	weighIs(t, "not fine", "0", plain(), heavyBy(4001), by(0), by(1), stuck())
	weighIs(t, "not fine", "", plain(), heavyBy(4001), by(0), by(1), stuck())
	weighIs(t, "not fine, but up", "", plain(), heavyBy(4001), by(1), by(0), taken(0))
}

// P26.3: of gains that are not above -1000 nothing more is known than that the power is from 0 to 2^-1000.
func TestWeighFarDown(t *testing.T) {
	f := gridded(1, mostGrid)
	unit := pow2(mostGrid)
	thousand := new(big.Int).Mul(unit, big.NewInt(1000))
	place := func(n *big.Int) api.State { return api.State{Q: intsOf(n), P: ints(0)} }
	for _, n := range []*big.Int{thousand, new(big.Int).Add(thousand, big.NewInt(1)), new(big.Int).Add(thousand, pow2(39)), pow2(mostGrid + 17), near(mostGrid+17, 1), near(4000, 1), near(fineBits, -1)} {
		for _, r := range []struct {
			row  string
			want answer
		}{
			{"1", left(1)}, {"01", left(2)}, {zeros(500) + "1", left(501)}, {zeros(998) + "1", left(999)},
			{zeros(999) + "1", stuck()}, {zeros(1000), stuck()}, {zeros(1001), stuck()}, {zeros(2000), stuck()}, {zeros(999) + ones(99), stuck()}, {zeros(999), dryAt(999)},
		} {
			weighIs(t, "not above -1000", r.row, plain(), f, place(n), at(0), r.want)
		}
	}
	// Above it: e to the power of -1000 is 2^-1442.7.
	for _, n := range []*big.Int{new(big.Int).Sub(thousand, big.NewInt(1)), new(big.Int).Sub(thousand, pow2(37)), new(big.Int).Sub(thousand, pow2(40))} {
		for _, r := range []struct {
			row  string
			want answer
		}{
			{"1", left(1)}, {zeros(998) + "1", left(999)}, {zeros(999) + "1", left(1000)}, {zeros(1000) + "1", left(1001)}, {zeros(1441) + "1", left(1442)},
			{zeros(1000), dryAt(1000)}, {zeros(1442), dryAt(1442)}, {zeros(1442) + "1", dryAt(1443)}, {zeros(1443), taken(1443)},
		} {
			weighIs(t, "above -1000", r.row, plain(), f, place(n), at(0), r.want)
		}
	}
}

// P26.3: u's ends at the power's, at the last level: u's upper end is not above the lower bound, and its lower end is not above the upper one. A power's bounds differ by one bit's worth: where they are u's ends, u is not wider.
func TestWeighEnds(t *testing.T) {
	f := way(1)
	odds, evens := 0, 0
	for n := int64(1); n <= 12; n++ {
		e := power(-n, 1, mostLevel)
		size := new(big.Int).Set(ratOf(e.Lo).Denom()).BitLen() - 1
		size = max(size, new(big.Int).Set(ratOf(e.Hi).Denom()).BitLen()-1)
		lo, hi := digitsOf(ratOf(e.Lo), size), digitsOf(ratOf(e.Hi), size)
		for _, more := range []string{"", "0", "1", zeros(50), ones(50)} {
			weighIs(t, "from bound to bound", lo+more, plain(), f, at(n), at(0), stuck())
		}
		weighIs(t, "a bit too few", lo[:size-1], plain(), f, at(n), at(0), dryAt(size-1))
		if lo[size-1] == '1' {
			odds++
			weighIs(t, "up to the lower bound", lo[:size-1]+"0", plain(), f, at(n), at(0), taken(size))
			continue
		}
		evens++
		for _, more := range []string{"", "0", "1", ones(50)} {
			weighIs(t, "from the upper bound on", hi+more, plain(), f, at(n), at(0), stuck())
		}
	}
	if odds < 2 || evens < 2 {
		t.Error(odds, evens)
	}
}

// coarse is the parameter, but rounded to multiples of 2^(n - 31) at level 0, if it is above 0 and below 2^n.
func coarse(n int, more ...api.Node) api.Tape {
	return tapeOf(1, append([]api.Node{par(0), numberOf(whole(pow2(n))), two(api.NdAdd, 0, 1), two(api.NdSub, 2, 1)}, more...)...)
}

// P26.3: a gain that is from -2 to -1 at level 0, and -3/2 from level 1 on: bits are read as long as u is wider than the power, which is from 0.135 to 0.368, then 0.223.
func TestWeighCoarse(t *testing.T) {
	x, f := coarse(31), gridded(1, 1)
	a, b := at(4), at(1)
	gainIs(t, "level 0", x, f, a, b, 0, some(just(-2, 1).Lo, just(-1, 1).Hi))
	gainIs(t, "level 1", x, f, a, b, 1, just(-3, 2))
	for _, r := range []struct {
		row  string
		want answer
	}{
		// At level 0.
		{"1", left(1)}, {"011", left(3)}, {"000", taken(3)},
		// At level 1, without a further bit: from 1/4 to 3/8.
		{"010", left(3)},
		// At level 1, with further bits: 1/8 to 1/4 is not narrow enough.
		{"0010", taken(4)}, {"00110", taken(5)}, {"001111", left(6)}, {"00111000", taken(8)}, {"001110011", left(9)},
	} {
		weighIs(t, "coarse", r.row, x, f, a, b, r.want)
	}
	// From -2 to 0, then -1/2: a power from 0.135 to 1 is wider than 1/2, but not than all of it; 0.607 decides.
	c := api.State{Q: ints(2), P: ints(0)}
	gainIs(t, "level 0", x, f, c, b, 0, some(just(-1, 1).Lo, api.Dyad{}))
	for _, r := range []struct {
		row  string
		want answer
	}{{"0", taken(1)}, {"11", left(2)}, {"101", left(3)}, {"10010", taken(5)}} {
		weighIs(t, "coarser", r.row, x, f, c, b, r.want)
	}
	// Where it may be above 0, nothing is sure before level 1.
	d := api.State{Q: ints(1), P: ints(0)}
	gainIs(t, "level 0", x, f, d, api.State{Q: ints(1), P: ints(1)}, 0, just(-1, 8))
	weighIs(t, "from 0 to 1, and up", "", x, f, at(0), b, taken(0))
	gainIs(t, "level 0", x, f, at(3), b, 0, some(just(-2, 1).Lo, api.Dyad{}))
	for _, r := range []struct {
		row  string
		want answer
	}{{"00", taken(2)}, {"1", left(1)}, {"0100", taken(4)}} {
		weighIs(t, "from -2 to 0", r.row, x, f, at(3), b, r.want)
	}
}

// P26.3: a gain that is not below 0, but of which no more is known at any level, is enough; one of which no more is known than that it is not above 0 is not.
func TestWeighFrom0(t *testing.T) {
	x := tapeOf(1, par(0), numberOf(whole(pow2(3000))), number(1, 3), two(api.NdAdd, 1, 2), two(api.NdSub, 3, 3), two(api.NdMul, 4, 0), two(api.NdMul, 5, 5))
	for level := range mostLevel + 1 {
		if got, _ := gain(t, x, way(1), at(0), at(1), level); got.Kind != api.IvSome || !sameDyad(got.Lo, api.Dyad{}) || got.Hi.E < 3000 {
			t.Error(shownIvl(got))
		}
	}
	weighIs(t, "from 0 on", "", x, way(1), at(0), at(1), taken(0))
	weighIs(t, "up to 0", "0", x, way(1), at(1), at(0), stuck())
}

// apart adds to a tape's steps the difference of two that are the same: at level 0 it is only known to be from -2^(n - 31) to 2^(n - 31), if the parameter is above 0, and from the next level on it is 0.
func apart(nodes []api.Node, n int) []api.Node {
	at := len(nodes)
	return append(nodes, numberOf(whole(pow2(n))), two(api.NdAdd, 0, at), two(api.NdSub, at+1, at+1))
}

// P26.3: u is as wide as it is, however far apart the power's bounds are; of a gain that turns out to be 0 bits are read only before.
func TestWeighFarApart(t *testing.T) {
	f := gridded(1, 2)
	far := apart([]api.Node{par(0)}, 47)
	far = append(far, two(api.NdMul, 3, 3), number(3, 100000), two(api.NdMul, 4, 5))
	down := tapeOf(1, append(slices.Clone(far), one(api.NdNeg, 6))...)
	up := apart(slices.Clone(far), 31)
	up = append(up, two(api.NdMul, 9, 9), two(api.NdSub, 6, 10))
	level0 := func(x api.Tape) api.Ivl {
		got, _ := gain(t, x, f, at(0), at(1), 0)
		gainIs(t, "level 1", x, f, at(0), at(1), 1, just(0, 1))
		return got
	}
	// From -128849 to 0: the power is from above 0 to 1, so less wide than u.
	if got := level0(down); !sameDyad(got.Hi, api.Dyad{}) || bigOf(got.Lo.M).Sign() >= 0 || expo.Of(got, 32).Lo.E > -180000 {
		t.Error(shownIvl(got))
	}
	weighIs(t, "to 1", "0", down, f, at(0), at(1), taken(1))
	weighIs(t, "to 1", "1", down, f, at(0), at(1), taken(1))
	// From -1 to 128849.
	if got := level0(tapeOf(1, up...)); !sameDyad(got.Lo, just(-1, 1).Lo) || expo.Of(got, 32).Hi.E < 180000 {
		t.Error(shownIvl(got))
	}
	weighIs(t, "far beyond 1", "", tapeOf(1, up...), f, at(0), at(1), taken(0))
	// From -1/8 to 1/8: the power is from 0.8825 to 1.1331, a little wider than 1/4.
	near := append(apart([]api.Node{par(0)}, 31), number(1, 8), two(api.NdMul, 3, 4))
	if got := level0(tapeOf(1, near...)); !sameIvl(got, some(just(-1, 8).Lo, just(1, 8).Hi)) {
		t.Error(shownIvl(got))
	}
	for _, r := range []struct {
		row  string
		want answer
	}{{"0", taken(1)}, {"10", taken(2)}, {"11", taken(2)}} {
		weighIs(t, "beyond 1", r.row, tapeOf(1, near...), f, at(0), at(1), r.want)
	}
	// From -1 to 1: the power is from 0.37 to 2.72.
	weighIs(t, "beyond 2", "", tapeOf(1, near[:4]...), f, at(0), at(1), taken(0))
}

// P26.3: gains without a power, or that are not known, at level 0, and at all.
func TestWeighNextLevel(t *testing.T) {
	f := gridded(1, 3)
	wide := coarse(60)
	need := coarse(60, one(api.NdNeed, 3), two(api.NdAdd, 0, 4))
	none := coarse(60, number(1, 2), two(api.NdSub, 3, 4), one(api.NdNeed, 5))
	for level := range 3 {
		got, _ := gain(t, wide, f, at(3), at(1), level)
		if e := expo.Of(got, 32*(level+1)); (e.Kind == api.IvSome) != (level > 0) {
			t.Errorf("level %d: %s", level, shownIvl(e))
		}
		got, _ = gain(t, need, f, at(3), at(1), level)
		if (got.Kind == api.IvUnknown) != (level == 0) {
			t.Errorf("level %d: %s", level, shownIvl(got))
		}
		got, _ = gain(t, none, f, at(8), at(1), level)
		if (got.Kind == api.IvUnknown) != (level == 0) || (got.Kind == api.IvUndef) != (level > 0) {
			t.Errorf("level %d: %s", level, shownIvl(got))
		}
	}
	// Of a gain of -1/4, 0.7788 decides.
	for _, x := range []api.Tape{wide, need} {
		weighIs(t, "down", "0", x, f, at(3), at(1), taken(1))
		weighIs(t, "down", "10", x, f, at(3), at(1), taken(2))
		weighIs(t, "down", "111", x, f, at(3), at(1), left(3))
		weighIs(t, "down", "1101", x, f, at(3), at(1), left(4))
		weighIs(t, "up", "", x, f, at(1), at(3), taken(0))
		weighIs(t, "the same place", "", x, f, at(1), at(1), taken(0))
	}
	weighIs(t, "no value", "", none, f, at(8), at(1), left(0))
	weighIs(t, "no value", "", none, f, at(1), at(8), left(0))
	weighIs(t, "no value", "", none, f, at(1), at(1), left(0))
	// Not known at any level: no bit is asked for.
	for _, row := range []string{"", "0", zeros(100), ones(100)} {
		weighIs(t, "not known", row, threefold(), f, at(8), at(0), stuck())
		weighIs(t, "not known", row, threefold(), f, at(0), at(8), stuck())
		weighIs(t, "not known", row, threefold(), f, at(0), at(0), stuck())
		weighIs(t, "no value", row, threefold(), f, at(0), at(-8), left(0))
		weighIs(t, "no value", row, threefold(), f, at(-8), at(8), left(0))
		weighIs(t, "no value", row, threefold(), f, at(-8), at(-8), left(0))
	}
	// A weight that can't be computed.
	f.Mass[0] = fracOf(whole(pow2(mostBits - 1)))
	weighIs(t, "weights too long", "01", plain(), f, at(0), at(1), stuck())
	weighIs(t, "weights too long", "01", threefold(), f, at(0), at(-1), left(0))
}

// blurred is the parameter, and at any level but the last one next to nothing is known of it; there, no more than that it is up to 1/2 more.
func blurred() api.Tape {
	deep := ratio(near(1990, 0), big.NewInt(1))
	return tapeOf(1, par(0), numberOf(deep), number(1, 3), two(api.NdAdd, 1, 2), two(api.NdSub, 3, 1), numberOf(inverse(pow2(1000))), two(api.NdMul, 4, 5), two(api.NdAdd, 0, 6))
}

// P26.3: at the last level u is halved until it is not wider than the power; what was read until then is not read, as it is an error.
func TestWeighLastLevel(t *testing.T) {
	x, f := blurred(), way(1)
	a, b := at(1), at(0)
	for level := range mostLevel {
		got, _ := gain(t, x, f, a, b, level)
		if e := expo.Of(got, 32*(level+1)); e.Kind == api.IvSome {
			t.Errorf("level %d: %s", level, shownIvl(got))
		}
	}
	// The power is from 0.223 to 0.607.
	gainIs(t, "the last level", x, f, a, b, mostLevel, some(just(-3, 2).Lo, just(-1, 2).Hi))
	for _, r := range []struct {
		row  string
		want answer
	}{
		{"", dryAt(0)}, {"0", dryAt(1)}, {"1", dryAt(1)}, {"11", left(2)},
		// A quarter is narrower than the power: three of them hold one of its bounds, or are within it.
		{"00", stuck()}, {"01", stuck()}, {"10", stuck()}, {"000", stuck()}, {"011", stuck()}, {"101", stuck()},
	} {
		weighIs(t, "the last level", r.row, x, f, a, b, r.want)
	}
}

// Errors: sources that are none, before all else.
func TestNoSource(t *testing.T) {
	good, none := way(1), api.Tape{}
	for _, s := range []*bits.Source{nil, {}, new(bits.Source)} {
		for _, x := range []api.Tape{plain(), none, threefold()} {
			for _, f := range []api.Frog{good, {}} {
				for _, a := range []api.State{at(0), at(3), {}} {
					if v, e := weigh.Weigh(s, x, f, a, at(0)); v != api.VdNone || e != api.ErrNil {
						t.Error(v, e)
					}
				}
			}
		}
	}
}

// Errors: the tape, then the way and the lists; these before anything is read, or found out.
func TestWeighRefusals(t *testing.T) {
	x := tapeOf(2, par(0), par(1), two(api.NdAdd, 0, 1))
	a, b := at(1, 2), at(1, 1)
	for _, row := range []string{"", "0", zeros(30)} {
		for what, f := range noWays(2) {
			weighIs(t, what, row, x, f, a, b, refused(api.ErrArg))
			weighIs(t, what, row, x, f, b, a, refused(api.ErrArg))
		}
		for _, none := range noTapes() {
			weighIs(t, "tape", row, none, way(2), a, b, refused(api.ErrTape))
			weighIs(t, "tape", row, none, api.Frog{}, api.State{}, b, refused(api.ErrTape))
		}
		for _, l := range append(noLists(), intsOf(big.NewInt(1), pow2(fineBits)), intsOf(minus(pow2(mostBits)), big.NewInt(1))) {
			for i := range 4 {
				states := []api.State{at(1, 2), at(1, 2)}
				*lists(states)[i] = l
				weighIs(t, "list", row, x, way(2), states[0], states[1], refused(api.ErrArg))
			}
		}
	}
	for n, is := range long() {
		for i := range 4 {
			states := []api.State{at(1, 2), at(1, 2)}
			*lists(states)[i] = []api.Int{topped(intOf(n), i), intOf(big.NewInt(1))}
			if got := weighed(t, zeros(8), x, way(2), states[0], states[1], reached{}); (got.e == api.ErrArg) == is {
				t.Errorf("list %d with %s: %+v", i, cut(n.String()), got)
			}
		}
	}
}

// Errors: a source that is dry already is not asked where no bit is needed.
func TestWeighDry(t *testing.T) {
	f := way(1)
	for _, text := range []string{"", "ab"} {
		for _, r := range []struct {
			what string
			x    api.Tape
			f    api.Frog
			a, b api.State
			want answer
		}{
			{"up", plain(), f, at(0), at(1), answer{v: api.VdTaken}},
			{"down", plain(), f, at(1), at(0), answer{e: api.ErrDry}},
			{"far down", plain(), f, at(5000), at(0), answer{e: api.ErrDry}},
			{"no value", threefold(), f, at(1), at(-1), answer{v: api.VdLeft}},
			{"not known", threefold(), f, at(1), at(0), answer{e: api.ErrStuck}},
			{"no power", plain(), massive(whole(pow2(4001))), by(0), by(1), answer{e: api.ErrStuck}},
			{"no way", plain(), way(2), at(0), at(1), answer{e: api.ErrArg}},
			{"no list", plain(), f, at(0, 0), at(1), answer{e: api.ErrArg}},
			{"no tape", api.Tape{}, way(2), at(0, 0), at(1), answer{e: api.ErrTape}},
		} {
			r.want.read, r.want.dry = 8*len(text), true
			s := driedOf(t, text)
			for range 2 {
				if got := asked(s, r.x, r.f, r.a, r.b, 0); got != r.want {
					t.Errorf("%s: %+v, want %+v", r.what, got, r.want)
				}
			}
		}
	}
}

// P26.3: proposals one after the other, by one source, until that is dry; an error in between changes nothing.
func TestWeighInARow(t *testing.T) {
	f := gridded(1, 4)
	// Taken by 00, left by 1, taken by 0100, left by 1, then four times taken by 00.
	s := bits.New(script("0010100100000000"))
	var got []api.Verdict
	for !s.Dry() {
		v, e := weigh.Weigh(s, plain(), f, at(16), at(0))
		if e == api.OK {
			got = append(got, v)
		}
		read := s.Read()
		weigh.Weigh(s, plain(), way(0), at(16), at(0))
		weigh.Weigh(s, threefold(), f, at(16), at(0))
		weigh.Weigh(s, plain(), f, at(0), at(16))
		if s.Read() != read {
			t.Error("bits were read for nothing")
		}
	}
	want := []api.Verdict{api.VdTaken, api.VdLeft, api.VdTaken, api.VdLeft, api.VdTaken, api.VdTaken, api.VdTaken, api.VdTaken}
	if !slices.Equal(got, want) {
		t.Error(got)
	}
}
