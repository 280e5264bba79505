package weigh_test

import (
	"math/big"
	"math/rand/v2"
	"slices"
	"testing"

	"stepstone/api"
	"stepstone/weigh"
)

// P26.2: the chapter's gains.
func TestGainExamples(t *testing.T) {
	for level := range mostLevel + 1 {
		f := gridded(1, 4)
		gainIs(t, "up", plain(), f, at(0), at(16), level, just(1, 1))
		gainIs(t, "down", plain(), f, at(16), at(0), level, just(-1, 1))
		gainIs(t, "far down", plain(), f, at(3200000), at(0), level, just(-200000, 1))
		gainIs(t, "the same place", tapeOf(1, par(0), one(api.NdLog, 0)), f, at(48), at(48), level, just(0, 1))
	}
}

// P26.2: what is known of Out, and of the weights, each to the level's bits.
func TestGainLevels(t *testing.T) {
	third := line(rat(1, 3))
	f := massive(rat(3, 1))
	for level := range mostLevel + 1 {
		p := 32 * (level + 1)
		gainIs(t, "a third", third, f, at(0), at(1), level, roundedOut(rat(1, 3), p))
		gainIs(t, "a third less", third, f, at(1), at(0), level, roundedOut(rat(-1, 3), p))
		gainIs(t, "a sixth by the push", plain(), f, by(1), by(0), level, roundedOut(rat(1, 6), p))
		gainIs(t, "a sixth less by the push", third, f, by(0), by(-1), level, roundedOut(rat(-1, 6), p))
		gainIs(t, "pushes that weigh the same", third, f, by(-5), by(5), level, just(0, 1))
		// One bit more than there is room for.
		long := near(p, 1)
		up := some(odd(pow2(p), 0), odd(near(p, 1<<1), 0))
		gainIs(t, "rounded", plain(), way(1), at(0), api.State{Q: intsOf(long), P: ints(0)}, level, up)
		gainIs(t, "not rounded", plain(), way(1), at(0), api.State{Q: intsOf(near(p, -1)), P: ints(0)}, level, some(odd(near(p, -1), 0), odd(near(p, -1), 0)))
	}
	for _, level := range append(farIntegers(), 31) {
		gainFails(t, "level", api.ErrArg, plain(), f, at(0), at(1), level)
		for _, x := range noTapes() {
			gainFails(t, "tape and level", api.ErrTape, x, f, at(0), at(1), level)
		}
	}
}

// P26.2: what is rounded when: the difference of Out, that of the weights, and their sum.
func TestGainRounded(t *testing.T) {
	two32 := int64(1) << 32
	f := massive(heavy(rat(1, 1)), heavy(rat(two32, 1)), heavy(rat(1<<31, 1)), heavy(rat(1, 2)))
	x := tapeOf(4, par(0))
	state := func(q int64, p ...int64) api.State { return api.State{Q: ints(q, 0, 0, 0), P: ints(p...)} }
	none := state(0, 0, 0, 0, 0)
	for _, r := range []struct {
		what string
		a, b api.State
		want api.Ivl
	}{
		{"the difference of Out", none, state(two32+1, 0, 0, 0, 0), some(odd(pow2(32), 0), odd(near(32, 2), 0))},
		{"the difference of the weights", state(0, 1, 1, 0, 0), none, some(odd(pow2(32), 0), odd(near(32, 2), 0))},
		{"the weights are not rounded", state(0, 1, 1, 0, 0), state(0, 0, 1, 0, 0), just(1, 1)},
		{"a difference, then the other one", state(two32, 1, 1, 0, 0), none, some(api.Dyad{}, odd(big.NewInt(2), 0))},
		{"the sum", state(0, 0, 0, 1, 1), none, some(odd(pow2(31), 0), odd(near(31, 1), 0))},
		{"the sum of both", state(0, 0, 0, 0, 1), state(1<<31, 0, 0, 0, 0), some(odd(pow2(31), 0), odd(near(31, 1), 0))},
	} {
		gainIs(t, r.what, x, f, r.a, r.b, 0, r.want)
	}
	gainIs(t, "exact", x, f, state(two32, 1, 1, 0, 0), none, 1, just(1, 1))
	gainIs(t, "exact", x, f, none, state(two32, 1, 1, 0, 0), 1, just(-1, 1))
}

// P26.2: several parameters, by different masses, on different grids.
func TestGainOfSeveral(t *testing.T) {
	x := tapeOf(2, par(0), par(1), two(api.NdMul, 0, 1))
	f := massive(rat(1, 1), rat(1, 4))
	a, b := api.State{Q: ints(2, 3), P: ints(1, 2)}, api.State{Q: ints(-1, 5), P: ints(-3, 1)}
	// From 6 to -5; the pushes weigh 1/2 and 8, then 9/2 and 2.
	gainIs(t, "grid 0", x, f, a, b, 0, just(-9, 1))
	gainIs(t, "and back", x, f, b, a, 0, just(9, 1))
	for _, grid := range []int{1, 2, 30, 59, mostGrid} {
		f.Grid = grid
		want := odd(big.NewInt(-9), -2*grid)
		gainIs(t, "grids", x, f, a, b, 3, some(want, want))
	}
	for _, grid := range append(farIntegers(), mostGrid+1) {
		f.Grid = grid
		gainFails(t, "no grid", api.ErrArg, x, f, a, b, 0)
	}
	gainIs(t, "no parameter", tapeOf(0, number(1, 3)), way(0), api.State{}, api.State{Q: []api.Int{}}, 0, just(0, 1))
	gainIs(t, "no value", tapeOf(0, number(-1, 1), one(api.NdLog, 0)), way(0), api.State{}, api.State{}, 0, undef())
}

// threefold is the parameter where that is above 0; below 0 it has no value, and at 0 none is known at any level.
func threefold() api.Tape {
	return tapeOf(1, par(0), number(1, 3), two(api.NdSub, 1, 1), two(api.NdAdd, 0, 2), one(api.NdNeed, 3), two(api.NdAdd, 0, 4))
}

// P26.2: Out that has no value, that is not known, and that is, at each of both places; with weights that can be computed, and that can't.
func TestGainKinds(t *testing.T) {
	for level := range mostLevel + 1 {
		for _, r := range []struct {
			from, to int64
			want     api.Ivl
		}{
			{2, 5, just(3, 1)}, {5, 2, just(-3, 1)}, {2, 0, api.Ivl{}}, {2, -1, undef()},
			{0, 2, api.Ivl{}}, {0, -1, undef()}, {-1, 2, undef()}, {-1, 0, undef()}, {-1, -2, undef()},
			{2, 2, just(0, 1)}, {0, 0, api.Ivl{}}, {-1, -1, undef()},
		} {
			f := way(1)
			gainIs(t, "kinds", threefold(), f, at(r.from), at(r.to), level, r.want)
			// Twice of this mass is too long: so is what any push weighs.
			f.Mass[0] = fracOf(whole(pow2(mostBits - 1)))
			want := r.want
			if want.Kind == api.IvSome {
				want = api.Ivl{}
			}
			gainIs(t, "weights too long", threefold(), f, at(r.from), at(r.to), level, want)
		}
	}
}

// P26.2: a weight that layer 6 can't compute, of one state or the other, or their difference.
func TestGainTooLong(t *testing.T) {
	const half = mostBits / 2
	for i, r := range []struct {
		mass []*big.Rat
		a, b []int64
		want uint8
	}{
		{[]*big.Rat{inverse(near(mostBits, -1))}, []int64{1}, []int64{1}, api.IvUnknown},
		{[]*big.Rat{inverse(near(mostBits, -1))}, []int64{0}, []int64{0}, api.IvSome},
		{[]*big.Rat{inverse(near(mostBits, -1))}, []int64{0}, []int64{2}, api.IvUnknown},
		{[]*big.Rat{inverse(near(mostBits, -1))}, []int64{2}, []int64{0}, api.IvUnknown},
		{[]*big.Rat{inverse(near(half, -1))}, []int64{1}, []int64{0}, api.IvSome},
		{[]*big.Rat{inverse(near(half, -1))}, []int64{0}, []int64{-1}, api.IvSome},
		// Each weighs 1 by 2^65536 + 1, or so: the product of both denominators has no room.
		{[]*big.Rat{heavy(inverse(near(half, 1)))}, []int64{1}, []int64{1}, api.IvUnknown},
		{[]*big.Rat{heavy(inverse(near(half, 1)))}, []int64{1}, []int64{0}, api.IvSome},
		{[]*big.Rat{heavy(inverse(near(half-500, 1))), heavy(inverse(near(half-500, 3)))}, []int64{1, 0}, []int64{0, 1}, api.IvSome},
		{[]*big.Rat{heavy(inverse(near(half, 1))), heavy(inverse(near(half, 3)))}, []int64{1, 0}, []int64{0, 1}, api.IvUnknown},
		{[]*big.Rat{heavy(inverse(near(half, -1)))}, []int64{1}, []int64{1}, api.IvSome},
	} {
		x := tapeOf(len(r.mass), number(-1, 3))
		for _, level := range []int{0, 7, mostLevel} {
			got, e := gain(t, x, massive(r.mass...), by(r.a...), by(r.b...), level)
			if e != api.OK || got.Kind != r.want {
				t.Errorf("row %d, level %d: kind %d, error %d", i, level, got.Kind, e)
			}
			x.Nodes[0] = number(-1, 3)
			none := tapeOf(len(r.mass), number(-1, 3), one(api.NdLog, 0))
			gainIs(t, "no value", none, massive(r.mass...), by(r.a...), by(r.b...), level, undef())
		}
	}
}

// P26.2: a difference of weights that layer 6 can compute, but layer 7 can't round to so many bits, is not known.
func TestGainNotRounded(t *testing.T) {
	f := massive(heavy(inverse(near(mostBits-500, -1))))
	for level := range mostLevel + 1 {
		want := api.Ivl{}
		if p := 32 * (level + 1); p <= 500 {
			want = roundedOut(inverse(near(mostBits-500, -1)), p)
		}
		gainIs(t, "a long weight", plain(), f, by(1), by(0), level, want)
	}
}

// P26.2: the same places, however they are written; where Out is known, it does not change, as little as may be known of it.
func TestGainOfOnePlace(t *testing.T) {
	x := tapeOf(3, par(0), one(api.NdExp, 0), par(2), two(api.NdMul, 1, 2))
	f := gridded(3, 7)
	q := ints(50, 0, -9)
	for zeros := range 4 {
		r := []api.Int{topped(q[0], zeros), topped(q[1], zeros), topped(q[2], 2*zeros)}
		gainIs(t, "one place", x, f, api.State{Q: q, P: ints(0, 0, 0)}, api.State{Q: r, P: ints(0, 0, 0)}, 2, just(0, 1))
		gainIs(t, "one place, two pushes", x, f, api.State{Q: r, P: ints(0, 128, 0)}, api.State{Q: q, P: ints(0, 0, 0)}, 2, just(1, 2))
	}
	// Two places that differ where Out does not depend on it are not the same: what is known of it differs by as much as is not known.
	r := ints(50, 1, -9)
	got, _ := gain(t, x, f, api.State{Q: q, P: ints(0, 0, 0)}, api.State{Q: r, P: ints(0, 0, 0)}, 2)
	if got.Kind != api.IvSome || sameDyad(got.Lo, got.Hi) {
		t.Error("two places that differ: " + shownIvl(got))
	}
	for i := range 3 {
		r := slices.Clone(q)
		r[i].Neg, r[i].M = !r[i].Neg, slices.Clone(r[i].M)
		if got, _ := gain(t, x, f, api.State{Q: q, P: ints(0, 0, 0)}, api.State{Q: r, P: ints(0, 0, 0)}, 2); sameIvl(got, just(0, 1)) != (i == 1) {
			t.Errorf("another sign of %d: %s", i, shownIvl(got))
		}
	}
}

// vast is e to the power of -1.99 times the parameter: at level 0, what is known of it, above 0 and below 2^16, is no more than that it is from 2^-188000 or so to 1.
func vast() api.Tape {
	return tapeOf(1, par(0), numberOf(whole(pow2(47))), two(api.NdAdd, 0, 1), two(api.NdSub, 2, 1), number(-199, 100), two(api.NdMul, 3, 4), one(api.NdExp, 5))
}

// P26.2: bounds that are so far apart that layer 5 can't subtract them: the same place has a gain all the same, as Out is known there.
func TestGainFarApart(t *testing.T) {
	f := way(1)
	out := outAt(vast(), 0, ints(1), 0)
	if out.Kind != api.IvSome || out.Lo.E > -180000 {
		t.Fatal(shownIvl(out))
	}
	gainIs(t, "one place", vast(), f, at(1), at(1), 0, just(0, 1))
	gainIs(t, "two places", vast(), f, at(1), at(2), 0, api.Ivl{})
	if got, _ := gain(t, vast(), f, at(1), at(2), 1); got.Kind != api.IvSome {
		t.Error(shownIvl(got))
	}
}

// Errors: the tape, then the way; then each list's length, and the integers' limbs; then the level.
func TestGainRefusals(t *testing.T) {
	x := tapeOf(2, par(0), par(1), two(api.NdAdd, 0, 1))
	good := at(1, 2)
	for what, f := range noWays(2) {
		gainFails(t, what, api.ErrArg, x, f, good, good, 0)
		for _, none := range noTapes() {
			gainFails(t, what+" and tape", api.ErrTape, none, f, good, good, 0)
			gainFails(t, what+" and tape", api.ErrTape, none, f, api.State{}, good, 0)
		}
	}
	for _, l := range noLists() {
		for i := range 4 {
			states := []api.State{at(1, 2), at(1, 2)}
			*lists(states)[i] = l
			gainFails(t, "list", api.ErrArg, x, way(2), states[0], states[1], 0)
			gainFails(t, "list and level", api.ErrArg, x, way(2), states[0], states[1], -1)
			gainFails(t, "list and tape", api.ErrTape, noTapes()[i], way(2), states[0], states[1], 0)
		}
	}
	for n, is := range long() {
		for i := range 4 {
			for _, n := range []*big.Int{n, minus(n)} {
				states := []api.State{at(1, 2), at(1, 2)}
				*lists(states)[i] = []api.Int{intOf(big.NewInt(1)), topped(intOf(n), i)}
				want := api.ErrArg
				if is {
					want = api.OK
				}
				if _, e := gain(t, x, way(2), states[0], states[1], 0); e != want {
					t.Errorf("list %d with %s: %d", i, cut(n.String()), e)
				}
			}
		}
	}
	if got, e := weigh.Gain(api.Tape{}, api.Frog{}, api.State{}, api.State{}, 0); e != api.ErrTape || !sameIvl(got, api.Ivl{}) {
		t.Error(got, e)
	}
}

// noWays are not valid for so many parameters, each for one reason.
func noWays(pars int) map[string]api.Frog {
	out := map[string]api.Frog{}
	with := func(what string, change func(f *api.Frog)) {
		f := way(pars)
		change(&f)
		out[what] = f
	}
	with("nothing", func(f *api.Frog) { *f = api.Frog{} })
	with("grid below", func(f *api.Frog) { f.Grid = -1 })
	with("grid above", func(f *api.Frog) { f.Grid = mostGrid + 1 })
	with("level below", func(f *api.Frog) { f.Level = -1 })
	with("level above", func(f *api.Frog) { f.Level = mostLevel + 1 })
	with("count below", func(f *api.Frog) { f.Count = -1 })
	with("count above", func(f *api.Frog) { f.Count = mostCount + 1 })
	with("step", func(f *api.Frog) { f.Step = frac(0, 1) })
	with("no mass", func(f *api.Frog) { f.Mass = nil })
	with("mass too few", func(f *api.Frog) { f.Mass = f.Mass[1:] })
	with("mass too many", func(f *api.Frog) { f.Mass = append(f.Mass, frac(1, 1)) })
	with("mass below 0", func(f *api.Frog) { f.Mass[0] = frac(-1, 1) })
	with("mass 0", func(f *api.Frog) { f.Mass[len(f.Mass)-1] = frac(0, 1) })
	return out
}

// noLists have another length than 2.
func noLists() [][]api.Int {
	return [][]api.Int{nil, {}, ints(1), ints(1, 2, 3), slices.Repeat(ints(0), mostPars)}
}

// lists are the four of two states.
func lists(states []api.State) []*[]api.Int {
	return []*[]api.Int{&states[0].Q, &states[0].P, &states[1].Q, &states[1].P}
}

// P26.2: tapes, ways and states of any sort, at any level.
func TestAnyGain(t *testing.T) {
	g := rand.New(rand.NewPCG(26, 2))
	kinds, errors := map[uint8]int{}, map[api.Errno]int{}
	for range 10000 {
		x, f, a, b := anyProposal(g)
		if g.IntN(10) == 0 {
			f, a, b = spoilt(g, f, a, b)
		}
		got, e := gain(t, x, f, a, b, oneOf(g, 0, 0, 1, 2, g.IntN(mostLevel+3)-1))
		errors[e]++
		if e == api.OK {
			kinds[got.Kind]++
		}
	}
	if kinds[api.IvSome] < 4000 || kinds[api.IvUndef] < 500 || kinds[api.IvUnknown] < 40 || errors[api.ErrArg] < 500 {
		t.Error(kinds, errors)
	}
}

// anyProposal is valid.
func anyProposal(g *rand.Rand) (api.Tape, api.Frog, api.State, api.State) {
	x := anyTape(g, 12)
	f := anyWay(g, x.Pars)
	a := anyState(g, x.Pars, f.Grid)
	if x.Pars > 0 && g.IntN(30) == 0 {
		f.Mass[g.IntN(x.Pars)] = oneOf(g, someNumbers()...)
	}
	return x, f, a, anyOther(g, a, f.Grid)
}

// spoilt is changed in one thing, and most often not valid then.
func spoilt(g *rand.Rand, f api.Frog, a, b api.State) (api.Frog, api.State, api.State) {
	f.Mass = slices.Clone(f.Mass)
	states := []api.State{a, b}
	l := lists(states)[g.IntN(4)]
	switch k := g.IntN(7); {
	case k == 0:
		f.Grid = oneOf(g, farIntegers()...)
	case k == 1:
		f.Level = oneOf(g, farIntegers()...)
	case k == 2:
		f.Count = oneOf(g, farIntegers()...)
	case k == 3:
		f.Step = oneOf(g, noNumbers()...)
	case k == 4 && len(f.Mass) > 0:
		f.Mass[g.IntN(len(f.Mass))] = oneOf(g, noNumbers()...)
	case k == 5 && len(*l) > 0:
		*l = slices.Clone(*l)
		(*l)[g.IntN(len(*l))] = topped(intOf(anyBits(g, 2*fineBits)), g.IntN(3))
	default:
		*l = anyInts(g, g.IntN(4), 4)
	}
	return f, states[0], states[1]
}
