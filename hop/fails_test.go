package hop_test

import (
	"math/big"
	"math/rand/v2"
	"slices"
	"strings"
	"testing"

	"stepstone/api"
	"stepstone/bits"
)

// P27.2: a source that ends at any of the steps is dry then, and all of its bits are read.
func TestDry(t *testing.T) {
	f := light(2, 0, 3)
	x := tapeOf(2, par(0), par(1), two(api.NdAdd, 0, 1))
	first, second, steps := pushRow(-1), pushRow(0), "11"+"00"
	row := first + second + steps
	for _, r := range []struct {
		what string
		n    int
	}{
		{"before the first push", 0}, {"within the first push", 5}, {"a bit short of the first push", 7}, {"before the second push", 8}, {"a bit short of the second push", 11},
		{"before the number of steps", 12}, {"within the number of steps", 13}, {"where that is drawn anew", 14}, {"a bit short of the number of steps", 15}, {"before the weighing", 16},
	} {
		hopIs(t, r.what, row[:r.n], x, f, 3, ints(0, 0), dryAt(r.n))
	}
	hopIs(t, "within the weighing", row+"0", x, f, 3, ints(0, 0), dryAt(17))
	hopIs(t, "enough", row+"00", x, f, 3, ints(0, 0), taken(18, -1, 0))
	hopIs(t, "enough", row+"1", x, f, 3, ints(0, 0), left(17, 0, 0))
	hopIs(t, "enough", row, x, f, 3, ints(-3, 0), outside(16, -3, 0))
	hopIs(t, "nothing but a number of steps", "", flat(0), light(0, 0, 2), 3, nil, dryAt(0))
	hopIs(t, "nothing but a number of steps", "11111", flat(0), light(0, 0, 33), 3, nil, dryAt(5))
	// A source that is dry stays so, also where no bit would be needed.
	for _, text := range []string{"", "\x00", "stepstone"} {
		for _, x := range []api.Tape{flat(0), flat(1), plain()} {
			s := driedOf(t, text)
			for range 3 {
				if got := hopped(t, s, x, light(x.Pars, 0, 1), 3, make([]api.Int, x.Pars), reached{}); got != dryAt(8*len(text)) {
					t.Errorf("%d parameters, %d bytes: %+v", x.Pars, len(text), got)
				}
			}
		}
	}
}

// P27.2: transitions one after the other, until there are not enough bits.
func TestReadOn(t *testing.T) {
	f := light(1, 0, 1)
	s := bits.New(script(pushRow(1) + pushRow(-1) + "00" + pushRow(-1) + "1" + pushRow(2) + pushRow(1) + "0101"))
	q, got := ints(0), []answer{}
	for _, next := range [][]api.Int{ints(1), ints(0), ints(0), ints(2), ints(2), nil} {
		got = append(got, hopped(t, s, plain(), f, 2, q, reached{}))
		q = next
	}
	want := []answer{taken(8, 1), taken(18, 0), left(27, 0), taken(47, 2), outside(55, 2), {e: api.ErrDry, read: 64, dry: true}}
	if !slices.Equal(got, want) {
		t.Errorf("%+v", got)
	}
}

// P27.2: what is no source.
func TestNoSource(t *testing.T) {
	for _, s := range []*bits.Source{nil, {}} {
		for _, x := range []api.Tape{flat(0), plain(), {}} {
			for _, f := range []api.Frog{way(0), way(1), {}} {
				for _, box := range []int{0, 1} {
					if got := asked(t, s, x, f, box, nil); got != refused(api.ErrNil) {
						t.Errorf("no source: %+v", got)
					}
				}
			}
		}
	}
}

// hopFails asks whether there is that error, for sources that are new, that were read of, that are dry, and that they are as they were.
func hopFails(t *testing.T, what string, want api.Errno, x api.Tape, f api.Frog, box int, q []api.Int) {
	t.Helper()
	read := bits.New("steps of stone")
	read.Number(11)
	for _, s := range []*bits.Source{bits.New(""), bits.New("steps of stone"), read, driedOf(t, "dry")} {
		before, dry := s.Read(), s.Dry()
		got := hopped(t, s, x, f, box, q, reached{})
		if got != (answer{e: want, read: before, dry: dry}) {
			t.Errorf("%s: Hop of %s, %s, box %d, from %s: %+v, want error %d", what, shownTape(x), shownWay(f), box, shownInts(q), got, want)
		}
	}
}

// P27.2: tapes that are not valid come first, whatever else is wrong.
func TestNoTape(t *testing.T) {
	for _, x := range noTapes() {
		hopFails(t, "no tape", api.ErrTape, x, way(1), 1, ints(0))
		hopFails(t, "no tape, and nothing else", api.ErrTape, x, api.Frog{}, 0, nil)
	}
}

// P27.2: ways of moving that are not valid, or have no steps.
func TestNoWay(t *testing.T) {
	with := func(what string, change func(f *api.Frog)) {
		t.Helper()
		f := way(2)
		change(&f)
		hopFails(t, what, api.ErrArg, tapeOf(2, par(0)), f, 1, ints(0, 0))
	}
	with("nothing", func(f *api.Frog) { *f = api.Frog{} })
	with("no steps", func(f *api.Frog) { f.Count = 0 })
	for _, n := range farIntegers() {
		if n < 0 || n > mostCount {
			with("count", func(f *api.Frog) { f.Count = n })
			with("level", func(f *api.Frog) { f.Level = n })
			with("grid", func(f *api.Frog) { f.Grid = n })
		}
	}
	with("count", func(f *api.Frog) { f.Count = mostCount + 1 })
	with("level", func(f *api.Frog) { f.Level = mostLevel + 1 })
	with("grid", func(f *api.Frog) { f.Grid = mostGrid + 1 })
	for _, x := range noNumbers() {
		with("step", func(f *api.Frog) { f.Step = x })
		with("mass", func(f *api.Frog) { f.Mass[0] = x })
		with("mass", func(f *api.Frog) { f.Mass[1] = x })
	}
	with("no mass", func(f *api.Frog) { f.Mass = nil })
	with("mass too few", func(f *api.Frog) { f.Mass = f.Mass[1:] })
	with("mass too many", func(f *api.Frog) { f.Mass = append(f.Mass, frac(1, 1)) })
	hopFails(t, "no mass", api.ErrArg, flat(0), way(1), 1, nil)
	// What is just valid.
	f := light(1, mostGrid, 1)
	f.Level = mostLevel
	hopIs(t, "the greatest", pushRow(-1)+numberRow(0, 1), flat(1), f, mostBox, ints(1), taken(8, 0))
	hopIs(t, "the greatest", pushRow(1)+"111111", flat(1), light(1, 0, mostCount), mostBox, ints(0), taken(14, 64))
}

// P27.2: boxes, and places that are of another length, or not in the box.
func TestNoPlace(t *testing.T) {
	x, f := tapeOf(2, par(0)), light(2, 3, 1)
	for _, box := range append(farIntegers(), 0, mostBox+1) {
		if box < 1 || box > mostBox {
			hopFails(t, "no box", api.ErrArg, x, f, box, ints(0, 0))
			hopFails(t, "no box", api.ErrArg, flat(0), light(0, 3, 1), box, nil)
		}
	}
	for _, q := range [][]api.Int{nil, {}, ints(0), ints(0, 0, 0), make([]api.Int, mostPars)} {
		hopFails(t, "another length", api.ErrArg, x, f, 5, q)
	}
	hopFails(t, "another length", api.ErrArg, flat(0), light(0, 3, 1), 5, ints(0))
	row := pushRow(0) + pushRow(0)
	for _, box := range []int{1, 2, 999, 1000} {
		edge := edgeOf(3, box)
		for _, n := range []*big.Int{edge, minus(edge)} {
			e := n.Int64()
			hopIs(t, "at the edge", row, flat(2), f, box, intsOf(n, new(big.Int)), taken(8, e, 0))
			hopIs(t, "at the edge", row, flat(2), f, box, intsOf(new(big.Int), n), taken(8, 0, e))
		}
		over := plus(edge, 1)
		for _, n := range []*big.Int{over, minus(over), pow2(64), pow2(fineBits), minus(near(mostBits, 5)), pow2(mostBits + 640)} {
			hopFails(t, "not in the box", api.ErrArg, x, f, box, intsOf(n, new(big.Int)))
			hopFails(t, "not in the box", api.ErrArg, x, f, box, intsOf(new(big.Int), n))
		}
	}
}

// P27.2: a variance that layer 6 finds too long, whichever the push is that needs it.
func TestLongVariance(t *testing.T) {
	top := near(mostBits, -1)
	for _, r := range []struct {
		mass *big.Rat
		grid int
		want api.Errno
	}{
		{whole(pow2(mostBits - 1)), 0, api.ErrDry}, {whole(pow2(mostBits - 1)), 1, api.ErrLong}, {whole(pow2(mostBits - 2)), 1, api.ErrLong}, {whole(pow2(mostBits - 3)), 1, api.ErrDry},
		{whole(top), 0, api.ErrDry}, {whole(top), 1, api.ErrLong}, {ratio(top, pow2(40)), 1, api.ErrLong}, {ratio(near(mostBits-2, -1), pow2(40)), 1, api.ErrDry},
		{whole(near(mostBits-120, -1)), mostGrid, api.ErrDry}, {whole(pow2(mostBits - 120)), mostGrid, api.ErrLong},
	} {
		f := gridded(1, r.grid)
		f.Mass[0] = fracOf(r.mass)
		want := refused(r.want)
		if r.want == api.ErrDry {
			want = dryAt(20)
		}
		hopIs(t, "of one", strings.Repeat("10", 10), flat(1), f, 1, ints(0), want)
		f = light(2, r.grid, 1)
		f.Mass[1] = fracOf(r.mass)
		row := pushRow(0)
		if r.want == api.ErrDry {
			want = dryAt(24)
		}
		hopIs(t, "of the second one", row+strings.Repeat("10", 10), flat(2), f, 1, ints(0, 0), want)
		hopIs(t, "the first one needs more bits", row[:3], flat(2), f, 1, ints(0, 0), dryAt(3))
		slices.Reverse(f.Mass)
		if r.want == api.ErrLong {
			hopIs(t, "of the first one", "", flat(2), f, 1, ints(0, 0), want)
		}
	}
}

// P27.2: a bell whose numbers get too long while it is drawn: its error is passed on, and the source is as it was.
func TestLongBell(t *testing.T) {
	const half = mostBits / 2
	zero := strings.Repeat("0", half/2)
	one := zero[1:] + "1"
	for _, r := range []struct {
		mass *big.Rat
		row  string
		want answer
	}{
		// Of an exponent of 1 by twice the denominator, whose square has room, or has not.
		{inverse(near(half-1, -1)), "1101", taken(4, 0)}, {inverse(near(half, -1)), "1101", refused(api.ErrLong)}, {inverse(near(half, -1)), "11", dryAt(2)},
		// Of an exponent whose denominator has no room beside what it is divided by.
		{whole(near(half-1, 3)), one + "1 11 0 00", refused(api.ErrArg)}, {whole(near(half-1, 3)), one + "1 11 0 0", dryAt(half/2 + 5)},
		{whole(near(half, -1)), zero + "11 0 1", refused(api.ErrLong)},
	} {
		f := way(1)
		f.Mass[0] = fracOf(r.mass)
		row := strings.ReplaceAll(r.row, " ", "")
		if got := hoppedBy(t, row, flat(1), f, 1, ints(0), reached{}); got != r.want {
			t.Errorf("%s by %s: %+v, want %+v", shownWay(f), cut(row), got, r.want)
		}
		// The same behind another push, of which the bits then were not read, either.
		f.Mass = []api.Frac{frac(1, 1), f.Mass[0]}
		want := r.want
		switch {
		case want.e == api.OK:
			want = taken(want.read+5, 0, 0)
		case want.e == api.ErrDry:
			want.read += 5
		}
		if got := hoppedBy(t, unitRow(0)+row, flat(2), f, 1, ints(0, 0), reached{}); got != want {
			t.Errorf("%s by %s: %+v, want %+v", shownWay(f), cut(row), got, want)
		}
	}
}

// P27.2: a push that is too long for layer 25 is refused as it is there.
func TestLongPush(t *testing.T) {
	g, seen := rand.New(rand.NewPCG(27, 7)), map[api.Errno]int{}
	for _, n := range []int{fineBits - 1, fineBits, fineBits + 1, fineBits + 9} {
		f := way(1)
		f.Mass[0] = fracOf(whole(pow2(2 * n)))
		f.Step = fracOf(whole(pow2(n)))
		for range 12 {
			s := bitsOf(g, 100*fineBits)
			push := bellBy(s.Copy(), f.Mass[0], 0)
			got := hopped(t, s, flat(1), f, mostBox, ints(3), reached{})
			if push.BitLen() > fineBits && got.e != api.ErrArg || push.BitLen() <= fineBits && got.v != api.VdTaken {
				t.Errorf("a push of %d bits: %+v", push.BitLen(), got)
			}
			seen[got.e]++
		}
	}
	if seen[api.ErrArg] < 10 || seen[api.OK] < 10 {
		t.Error(seen)
	}
}

// P27.2: what gets too long in a move.
func TestLongMove(t *testing.T) {
	f := light(1, 0, 1)
	f.Step = fracOf(whole(pow2(mostBits - 1)))
	hopIs(t, "no push", pushRow(0), flat(1), f, 1, ints(1), taken(4, 1))
	hopIs(t, "a long step", pushRow(-1), flat(1), f, 1, ints(0), refused(api.ErrBig))
	hopIs(t, "not so far", pushRow(-1)[:7], flat(1), f, 1, ints(0), dryAt(7))
	f.Count = 2
	hopIs(t, "not so far", pushRow(-1), flat(1), f, 1, ints(0), dryAt(8))
	hopIs(t, "a long step", pushRow(-1)+"1", flat(1), f, 1, ints(0), refused(api.ErrBig))
	// The last place that layer 25 has, far outside, and the one behind it.
	f.Count, f.Step = 1, fracOf(whole(pow2(fineBits-2)))
	hopIs(t, "too far", pushRow(1), flat(1), f, 1, ints(0), refused(api.ErrBig))
	hopIs(t, "too far", pushRow(1), flat(1), f, 1, ints(1), refused(api.ErrBig))
	hopIs(t, "outside", pushRow(1), flat(1), f, 1, ints(-1), outside(8, -1))
	hopIs(t, "outside", pushRow(-1), flat(1), f, 1, ints(1), outside(8, 1))
	// By two steps only.
	f.Count, f.Step = 2, fracOf(whole(pow2(fineBits-3)))
	hopIs(t, "one step", pushRow(1)+"0", flat(1), f, 1, ints(0), outside(9, 0))
	hopIs(t, "two steps", pushRow(1)+"1", flat(1), f, 1, ints(0), refused(api.ErrBig))
	// A push that gets too long.
	steep := tapeOf(1, par(0), numberOf(whole(pow2(3000))), two(api.NdMul, 0, 1))
	f = light(1, mostGrid, 1)
	f.Step = fracOf(whole(pow2(1000)))
	f.Mass[0] = fracOf(inverse(pow2(2 + 2*mostGrid)))
	hopIs(t, "a long push", pushRow(0), steep, f, 1, ints(0), refused(api.ErrBig))
}

// P27.2: what is not known well enough at any level: the source is as it was, though bits of it were read.
func TestStuck(t *testing.T) {
	f := light(1, 0, 1)
	for _, more := range []string{"", "0", "1101", strings.Repeat("01", 500)} {
		hopIs(t, "from 0", pushRow(1)+more, threefold(), f, 3, ints(0), refused(api.ErrStuck))
		hopIs(t, "to 0", pushRow(-1)+more, threefold(), f, 3, ints(1), refused(api.ErrStuck))
		hopIs(t, "at 0", pushRow(0)+more, threefold(), f, 3, ints(0), refused(api.ErrStuck))
	}
	hopIs(t, "to where there is no value", pushRow(-1), threefold(), f, 3, ints(0), left(8, 0))
	hopIs(t, "not from there", pushRow(1), threefold(), f, 3, ints(1), taken(8, 2))
	hopIs(t, "not so far", pushRow(1)[:7], threefold(), f, 3, ints(0), dryAt(7))
	// Up a hill of 3 times x squared, from 1: a kick of 3, by 12 to 13, a kick of 39: the push -42. The gain is 504 - 3528, which is not above -1000: of u no more is known than that it is not above 2^-999.
	up := tapeOf(1, par(0), two(api.NdMul, 0, 0), number(3, 1), two(api.NdMul, 1, 2))
	f = light(1, 0, 1)
	f.Step = frac(1, 1)
	zeros := strings.Repeat("0", 1000)
	hopIs(t, "far down", pushRow(0)+"1", up, f, 13, ints(1), left(5, 1))
	hopIs(t, "far down", pushRow(0)+zeros[:998]+"1", up, f, 13, ints(1), left(4+999, 1))
	hopIs(t, "far down", pushRow(0)+zeros, up, f, 13, ints(1), refused(api.ErrStuck))
	hopIs(t, "far down", pushRow(0)+zeros[:999], up, f, 13, ints(1), dryAt(4+999))
	hopIs(t, "outside", pushRow(0), up, f, 12, ints(1), outside(4, 1))
}
