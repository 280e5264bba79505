package frog_test

import (
	"math"
	"math/big"
	"math/rand/v2"
	"slices"
	"strconv"
	"testing"

	"stepstone/api"
	"stepstone/back"
	"stepstone/frog"
)

// P25.1: each of Grid, Level and Count at its edges, beyond them, and far from them.
func TestCheckIntegers(t *testing.T) {
	for _, pars := range []int{0, 1, 2} {
		x := tapeOf(pars, number(1, 1))
		for _, r := range []struct {
			name string
			most int
			set  func(f *api.Frog, n int)
		}{
			{"Grid", mostGrid, func(f *api.Frog, n int) { f.Grid = n }},
			{"Level", mostLevel, func(f *api.Frog, n int) { f.Level = n }},
			{"Count", mostCount, func(f *api.Frog, n int) { f.Count = n }},
		} {
			for _, n := range append(farIntegers(), 0, 1, r.most-1, r.most, r.most+1) {
				f, want := way(pars), api.ErrArg
				if r.set(&f, n); n >= 0 && n <= r.most {
					want = api.OK
				}
				if check(t, x, f) != want {
					t.Errorf("%s %d: want %d", r.name, n, want)
				}
				refusedAs(t, r.name, want, x, f)
			}
		}
	}
}

// refusedAs asks whether Numbers and Move refuse a way as Check does; what they compute is asked elsewhere.
func refusedAs(t *testing.T, what string, want api.Errno, x api.Tape, f api.Frog) {
	t.Helper()
	at := make([]api.Int, min(max(x.Pars, 0), mostPars))
	if _, e := numbersOf(t, x, f, at); e != want {
		t.Errorf("%s: Numbers of %s, %s: %d, want %d", what, shownTape(x), shownWay(f), e, want)
	}
	if want != api.OK {
		moveFails(t, what, want, x, f, at, at)
	}
}

// P25.1: Step and each Mass: what is not valid, or not above 0; and what is, in any way of being written.
func TestCheckNumbers(t *testing.T) {
	x := tapeOf(3, number(1, 1))
	for i := range 4 {
		ask := func(a api.Frac, want api.Errno) {
			f := way(3)
			if i == 3 {
				f.Step = a
			} else {
				f.Mass[i] = a
			}
			if check(t, x, f) != want {
				t.Errorf("number %d: %s: want %d", i, shownWay(f), want)
			}
			refusedAs(t, "number "+strconv.Itoa(i), want, x, f)
		}
		for _, a := range noNumbers() {
			ask(a, api.ErrArg)
		}
		for _, a := range someNumbers() {
			ask(a, api.OK)
		}
	}
}

// P25.1: there are as many Mass as parameters; a tape without parameters has none.
func TestCheckMassCount(t *testing.T) {
	for _, pars := range []int{0, 1, 2, 3, mostPars - 1, mostPars} {
		x := tapeOf(pars, number(1, 1))
		for _, n := range []int{0, 1, 2, 3, 4, pars - 1, pars, pars + 1, 2 * pars, 1000} {
			f, want := way(max(n, 0)), api.ErrArg
			if len(f.Mass) == pars {
				want = api.OK
			}
			if check(t, x, f) != want {
				t.Errorf("%d Mass of %d: want %d", n, pars, want)
			}
			refusedAs(t, "Mass", want, x, f)
		}
	}
	f := way(0)
	f.Mass = []api.Frac{}
	if check(t, tapeOf(0, number(1, 1)), f) != api.OK {
		t.Error("an empty list of Mass")
	}
}

// P25.1: a tape that is not valid is ErrTape, whatever way, place and push there are.
func TestCheckTape(t *testing.T) {
	wrong := way(1)
	wrong.Grid = -1
	for _, x := range noTapes() {
		for _, f := range []api.Frog{{}, way(0), way(1), way(2), wrong} {
			if check(t, x, f) != api.ErrTape {
				t.Error("a tape that is not valid")
			}
			for _, l := range [][]api.Int{nil, {}, ints(1), ints(1, 2), intsOf(pow2(fineBits)), intsOf(pow2(mostBits))} {
				if _, e := numbersOf(t, x, f, l); e != api.ErrTape {
					t.Error(e)
				}
				moveFails(t, "tape", api.ErrTape, x, f, l, l)
				moveFails(t, "tape", api.ErrTape, x, f, ints(1), l)
			}
		}
	}
}

// P25.1: the point of a place: each integer times 2 to the power of 0 minus the grid.
func TestPoint(t *testing.T) {
	for _, r := range []struct {
		n    int64
		grid int
		m    int64
		e    int
	}{
		{0, 0, 0, 0}, {0, 4, 0, 0}, {0, 60, 0, 0}, {1, 0, 1, 0}, {-1, 0, -1, 0}, {6, 0, 3, 1}, {-8, 0, -1, 3},
		{1, 4, 1, -4}, {16, 4, 1, 0}, {-16, 4, -1, 0}, {12, 4, 3, -2}, {-12, 4, -3, -2}, {80, 4, 5, 0}, {96, 4, 3, 1},
		{1, 59, 1, -59}, {1, 60, 1, -60}, {-1, 60, -1, -60}, {1 << 60, 60, 1, 0}, {1 << 62, 60, 1, 2}, {math.MinInt64, 60, -1, 3},
		{math.MaxInt64, 60, math.MaxInt64, -60}, {math.MaxInt64, 0, math.MaxInt64, 0},
	} {
		for zeros := range 3 {
			a := topped(ints(r.n)[0], zeros)
			got := frog.Point([]api.Int{ints(5)[0], a}, r.grid)
			if len(got) != 2 || got[1].E != r.e || !sameInts([]api.Int{got[1].M}, []*big.Int{big.NewInt(r.m)}) {
				t.Errorf("Point of %d, Grid %d: %v, want %dp%d", r.n, r.grid, got, r.m, r.e)
			}
		}
	}
	for _, grid := range []int{0, 1, 59, 60} {
		for _, l := range [][]api.Int{nil, {}} {
			if got := frog.Point(l, grid); len(got) != 0 {
				t.Errorf("Point of nothing: %v", got)
			}
		}
	}
}

// pointOf asks Point of an integer between others, and the model.
func pointOf(t *testing.T, n *big.Int, grid int, there bool) {
	t.Helper()
	for zeros := range 3 {
		q := append(ints(3, -4), topped(intOf(n), zeros), ints(5)[0])
		got := frog.Point(q, grid)
		if !there {
			if got != nil {
				t.Errorf("Point of %s, Grid %d: %d numbers", cut(n.String()), grid, len(got))
			}
			continue
		}
		want := pointAt(bigsOf(q), grid)
		if !slices.EqualFunc(got, want, func(a api.Dyad, b api.Ivl) bool {
			return a.E == b.Lo.E && sameInts([]api.Int{a.M}, bigsOf([]api.Int{b.Lo.M}))
		}) {
			t.Errorf("Point of %s, Grid %d", cut(n.String()), grid)
		}
	}
}

// P25.1: Point at any grid, and of integers of any length: those that are too long, and grids that are none, have no point.
func TestPointEdges(t *testing.T) {
	g := rand.New(rand.NewPCG(25, 1))
	long := []*big.Int{near(fineBits, -1), pow2(fineBits - 1), pow2(fineBits), near(fineBits, 1), near(fineBits+64, -1), near(mostBits, -1), pow2(mostBits - 1), near(mostBits-70, 1)}
	for grid := -2; grid <= mostGrid+2; grid++ {
		is := grid >= 0 && grid <= mostGrid
		for _, n := range append(long, big.NewInt(0), big.NewInt(2), anyBits(g, 300), anyBits(g, 70)) {
			pointOf(t, n, grid, is)
			pointOf(t, minus(n), grid, is)
		}
		for _, n := range []*big.Int{pow2(mostBits), near(mostBits, 1), near(mostBits+64, -1)} {
			pointOf(t, n, grid, false)
			pointOf(t, minus(n), grid, false)
		}
	}
	for _, grid := range farIntegers() {
		pointOf(t, big.NewInt(3), grid, false)
		if frog.Point(nil, grid) != nil {
			t.Errorf("Point of nothing, Grid %d", grid)
		}
	}
}

// P25.2: the chapter's example, and its way back.
func TestExample(t *testing.T) {
	x, f := tapeOf(1, par(0)), api.Frog{Grid: 4, Count: 1, Step: frac(1, 2), Mass: []api.Frac{frac(1, 1)}}
	numbersAre(t, "example", x, f, ints(0), rat(1, 1))
	moveIs(t, "example", x, f, ints(0), ints(0), ints(2), ints(-8))
	moveIs(t, "example, back", x, f, ints(2), ints(-8), ints(0), ints(0))
}

// P25.2: the slopes' numbers, of places of which they are known to the last bit.
func TestNumbers(t *testing.T) {
	f := way(1)
	for _, r := range []struct {
		n, d int64
		grid int
		want *big.Rat
	}{
		{1, 1, 0, rat(1, 1)}, {-1, 1, 0, rat(-1, 1)}, {7, 4, 0, rat(7, 4)}, {0, 1, 0, rat(0, 1)},
		// On 2^-8: exactly on the grid, and between.
		{1, 256, 0, rat(1, 256)}, {-1, 256, 0, rat(-1, 256)}, {1, 512, 0, rat(0, 1)}, {-1, 512, 0, rat(-1, 256)},
		{3, 512, 0, rat(1, 256)}, {-3, 512, 0, rat(-1, 128)}, {1, 1024, 0, rat(0, 1)}, {-1, 1024, 0, rat(-1, 256)},
		{3, 1024, 0, rat(0, 1)}, {-3, 1024, 0, rat(-1, 256)}, {1, 3, 0, rat(85, 256)}, {-1, 3, 0, rat(-43, 128)},
		// On 2^-10, 2^-16.
		{1, 1024, 1, rat(1, 1024)}, {1, 2048, 1, rat(0, 1)}, {-1, 2048, 1, rat(-1, 1024)}, {1, 512, 1, rat(1, 512)},
		{1, 1 << 16, 4, rat(1, 1<<16)}, {1, 1 << 17, 4, rat(0, 1)}, {-1, 1 << 17, 4, rat(-1, 1<<16)},
		{-1, 1 << 40, 60, rat(-1, 1<<40)}, {1, 1 << 60, 60, rat(1, 1<<60)}, {1, 1 << 60, 25, rat(0, 1)}, {1, 1 << 60, 26, rat(1, 1<<60)},
	} {
		f.Grid = r.grid
		for _, at := range []int64{0, 1, -1, 1 << 20} {
			numbersAre(t, "line", line(r.n, r.d), f, ints(at), r.want)
		}
	}
	for grid := range mostGrid + 1 {
		f.Grid = grid
		for _, n := range []int64{0, 1, -1, 2, 77, -1000, 1<<31 - 1, -1 << 31} {
			numbersAre(t, "hill", hill(), f, ints(n), ratio(big.NewInt(-n), pow2(grid)))
		}
	}
}

// P25.2: several parameters, each with its slope; those that Out does not depend on have 0.
func TestNumbersOfSeveral(t *testing.T) {
	f := way(4)
	f.Grid = 3
	x := tapeOf(4, par(0), par(2), two(api.NdMul, 0, 1), par(3), number(5, 1), two(api.NdMul, 3, 4), two(api.NdAdd, 2, 5), one(api.NdLog, 3))
	x.Out = 6
	numbersAre(t, "product and line", x, f, ints(16, 99, 24, -8), rat(3, 1), rat(0, 1), rat(2, 1), rat(5, 1))
	x.Out = 1
	numbersAre(t, "one", x, f, ints(16, 99, 24, -8), rat(0, 1), rat(0, 1), rat(1, 1), rat(0, 1))
	x.Out = 4
	numbersAre(t, "none", x, f, ints(16, 99, 24, -8), rat(0, 1), rat(0, 1), rat(0, 1), rat(0, 1))
	// One parameter, by two steps: 2 x of its square, by x and x.
	f = way(1)
	numbersAre(t, "twice", tapeOf(1, par(0), par(0), two(api.NdMul, 0, 1)), f, ints(7), rat(14, 1))
	// No parameter: no number.
	numbersAre(t, "no parameter", tapeOf(0, number(5, 1)), way(0), nil)
	numbersAre(t, "no parameter", tapeOf(0, number(5, 1)), way(0), []api.Int{})
}

// P25.2: where Out has no value, or is not known, each number is 0, also where a slope is known otherwise.
func TestNumbersWithoutOut(t *testing.T) {
	f := way(2)
	for _, r := range []struct {
		what string
		x    api.Tape
		at   []api.Int
	}{
		{"logarithm of 0", tapeOf(2, par(0), par(1), one(api.NdLog, 0), two(api.NdAdd, 1, 2)), ints(0, 5)},
		{"logarithm below 0", tapeOf(2, par(0), par(1), one(api.NdLog, 0), two(api.NdAdd, 1, 2)), ints(-3, 5)},
		{"root of 0", tapeOf(2, par(0), par(1), one(api.NdRoot, 0), two(api.NdAdd, 1, 2)), ints(0, 5)},
		{"divided by 0", tapeOf(2, par(0), par(1), two(api.NdDiv, 1, 0)), ints(0, 5)},
		{"need of 0", tapeOf(2, par(0), par(1), one(api.NdNeed, 0), two(api.NdAdd, 1, 2)), ints(0, 5)},
		{"too great", tapeOf(2, par(0), par(1), one(api.NdExp, 0), two(api.NdAdd, 1, 2)), ints(1<<40, 5)},
		{"not known", tapeOf(2, number(1, 3), two(api.NdSub, 0, 0), one(api.NdNeed, 1), par(1), two(api.NdAdd, 2, 3)), ints(1, 5)},
	} {
		numbersAre(t, r.what, r.x, f, r.at, rat(0, 1), rat(0, 1))
		moveIs(t, r.what, r.x, f, r.at, ints(0, 0), r.at, ints(0, 0))
	}
}

// tower is the parameter, times the square of 2 to the power of n, so many times squared, and this so often.
func tower(n, squares, factors int) api.Tape {
	nodes := []api.Node{par(0), {Op: api.NdNum, C: fracOf(whole(pow2(n)))}}
	for i := range squares {
		nodes = append(nodes, two(api.NdMul, i+1, i+1))
	}
	last, great := 0, squares+1
	for range factors {
		nodes = append(nodes, two(api.NdMul, last, great))
		last = len(nodes) - 1
	}
	return tapeOf(1, nodes...)
}

// P25.2: a slope that is not known, or so wide, or so great, that layer 7's Grid returns false: its number is 0.
func TestNumbersNotKnown(t *testing.T) {
	f := way(1)
	ask := func(what string, x api.Tape, grid int, want *big.Rat) {
		t.Helper()
		f.Grid = grid
		numbersAre(t, what, x, f, ints(0), want)
	}
	// At 0 Out is 0, and the slope 2 to the power of n times 2^squares times factors.
	ask("known", tower(100, 0, 1), 0, whole(pow2(100)))
	ask("known", tower(100, 3, 2), 0, whole(pow2(1600)))
	ask("beyond layer 7's exponents", tower(mostBits-1, 3, 2), 0, rat(0, 1))
	// In units of 2^-8: 2^131063 is the last that is not too long.
	ask("great", tower(mostBits-9, 0, 1), 0, whole(pow2(mostBits-9)))
	ask("too great", tower(mostBits-8, 0, 1), 0, rat(0, 1))
	ask("too great", tower(mostBits-1, 0, 1), 0, rat(0, 1))
	ask("too great", tower(mostBits-9, 0, 1), 1, rat(0, 1))
	ask("too great", tower(mostBits-1, 2, 2), 0, rat(0, 1))
	ask("great", tower(mostBits-129, 0, 1), 60, whole(pow2(mostBits-129)))
	ask("too great", tower(mostBits-128, 0, 1), 60, rat(0, 1))
	// The difference of 1/3 and 1/3 is from -2^-33 to 2^-33 or so: times 2^n, it is what the parameter is multiplied by, or e to its power is.
	wide := func(n int, ops ...api.Node) api.Tape {
		nodes := []api.Node{par(0), number(1, 3), two(api.NdSub, 1, 1), {Op: api.NdNum, C: fracOf(whole(pow2(n)))}, two(api.NdMul, 2, 3)}
		return tapeOf(1, append(nodes, ops...)...)
	}
	ask("wide around 0", wide(900, two(api.NdMul, 0, 4)), 0, rat(0, 1))
	x := wide(49, one(api.NdExp, 4), two(api.NdMul, 0, 5))
	ask("so wide that its sum is too long", x, 0, rat(0, 1))
	kindsAt(t, x, api.IvSome)
	kindsAt(t, tower(mostBits-1, 2, 2), api.IvSome)
	kindsAt(t, tower(mostBits-1, 3, 2), api.IvUnknown)
}

// kindsAt asks whether Out is known at 0, and what is known of the slope, as the test needs it.
func kindsAt(t *testing.T, x api.Tape, want uint8) {
	t.Helper()
	out, slopes, e := back.Of(x, pointAt([]*big.Int{{}}, 0), 32)
	if e != api.OK || out.Kind != api.IvSome || slopes[0].Kind != want {
		t.Errorf("%s: kinds %d, %v", shownTape(x), out.Kind, slopes)
	}
}

// P25.2: each level's bits: a third is rounded to them, and the middle is rounded down, on so fine a grid that it is seen.
func TestNumbersByLevel(t *testing.T) {
	f := way(1)
	f.Grid = mostGrid
	for level := range mostLevel + 1 {
		f.Level = level
		// 2^n by 3, n even, is a third below an integer of n - 1 bits, and that is the lower bound; the upper one is one more.
		n := 32*(level+1) + 1
		lo := new(big.Int).Div(pow2(n), big.NewInt(3))
		if lo.BitLen() != n-1 {
			t.Fatal(lo.BitLen())
		}
		middle := lo.Lsh(lo, 1)
		middle.Add(middle, big.NewInt(1))
		want := ratio(floor(ratio(middle.Lsh(middle, 128), pow2(n+1))), pow2(128))
		numbersAre(t, "level "+strconv.Itoa(level), line(1, 3), f, ints(0), want)
	}
}
