package frog_test

import (
	"math/big"
	"math/rand/v2"
	"slices"
	"strconv"
	"testing"

	"stepstone/api"
	"stepstone/frog"
)

// flat has parameters that Out does not depend on: no kick changes a push.
func flat(pars int) api.Tape { return tapeOf(pars, number(1, 1)) }

// P25.2: a kick is rounded half up, above and below 0; the mass is so great that nothing drifts.
func TestKick(t *testing.T) {
	for _, r := range []struct {
		n, d   int64 // the slope
		sn, sd int64 // the step
		grid   int
		kick   int64
	}{
		{1, 1, 2, 1, 0, 1}, {-1, 1, 2, 1, 0, -1}, {3, 1, 2, 1, 0, 3},
		// Half of the step is 1/2.
		{1, 1, 1, 1, 0, 1}, {-1, 1, 1, 1, 0, 0}, {3, 1, 1, 1, 0, 2}, {-3, 1, 1, 1, 0, -1}, {5, 1, 1, 1, 0, 3}, {-5, 1, 1, 1, 0, -2},
		// 1/6: a third of 1/2.
		{1, 1, 1, 3, 0, 0}, {-1, 1, 1, 3, 0, 0}, {2, 1, 1, 3, 0, 0}, {3, 1, 1, 3, 0, 1}, {-3, 1, 1, 3, 0, 0}, {4, 1, 1, 3, 0, 1}, {-4, 1, 1, 3, 0, -1},
		{-2, 1, 1, 3, 0, 0}, {9, 1, 1, 3, 0, 2}, {-9, 1, 1, 3, 0, -1}, {-10, 1, 1, 3, 0, -2}, {8, 1, 1, 3, 0, 1},
		// As many grid steps as there are in it: 1/4 of 16, 1/32 of 16, 5/32 of 16.
		{1, 1, 1, 2, 4, 4}, {-1, 1, 1, 2, 4, -4}, {1, 1, 1, 16, 4, 1}, {-1, 1, 1, 16, 4, 0}, {1, 1, 1, 17, 4, 0}, {-1, 1, 1, 17, 4, 0}, {-1, 1, 1, 15, 4, -1},
		{5, 1, 1, 16, 4, 3}, {-5, 1, 1, 16, 4, -2},
		// The number is rounded down first: 1/512 is 0, 3/512 1/256.
		{1, 512, 1024, 1, 0, 0}, {-1, 512, 1024, 1, 0, -2}, {3, 512, 1024, 1, 0, 2}, {-3, 512, 1024, 1, 0, -4}, {1, 512, 1024, 1, 1, 2},
		{1, 1, 2, 1, 60, 1 << 60}, {-1, 1 << 59, 1, 1, 60, -1}, {1, 1 << 60, 1, 1, 60, 1}, {-1, 1 << 60, 1, 1, 60, 0},
	} {
		f := api.Frog{Grid: r.grid, Count: 1, Step: frac(r.sn, r.sd), Mass: []api.Frac{fracOf(whole(pow2(200)))}}
		for _, p := range []int64{0, 1, -1, 1000, -1000} {
			for _, q := range []int64{0, -77, 1 << 40} {
				moveIs(t, "kick", line(r.n, r.d), f, ints(q), ints(p), ints(q), ints(-p-2*r.kick))
			}
		}
	}
}

// P25.2: a drift is rounded by its magnitude half up, with its sign.
func TestDrift(t *testing.T) {
	for _, r := range []struct{ p, sn, sd, mn, md, by int64 }{
		{0, 1, 1, 1, 1, 0}, {1, 1, 1, 1, 1, 1}, {7, 1, 1, 1, 1, 7}, {7, 3, 1, 1, 1, 21},
		{1, 1, 2, 1, 1, 1}, {3, 1, 2, 1, 1, 2}, {5, 1, 2, 1, 1, 3}, {1, 1, 1, 2, 1, 1}, {3, 1, 1, 2, 1, 2}, {1, 1, 4, 1, 2, 1},
		{1, 1, 3, 1, 1, 0}, {2, 1, 3, 1, 1, 1}, {4, 1, 3, 1, 1, 1}, {5, 1, 3, 1, 1, 2}, {1, 1, 1, 3, 1, 0}, {1, 2, 1, 1, 3, 6}, {3, 1, 2, 3, 1, 1},
		{1, 1, 2, 100, 99, 0}, {1, 1, 2, 99, 100, 1}, {49, 1, 1, 100, 1, 0}, {50, 1, 1, 100, 1, 1}, {51, 1, 1, 100, 1, 1}, {149, 1, 1, 100, 1, 1}, {150, 1, 1, 100, 1, 2},
		{1 << 40, 1, 1 << 20, 1 << 10, 1 << 5, 1 << 15}, {1, 1, 1 << 30, 1, 1 << 29, 1},
	} {
		for _, grid := range []int{0, 7, mostGrid} {
			f := api.Frog{Grid: grid, Count: 1, Step: frac(r.sn, r.sd), Mass: []api.Frac{frac(r.mn, r.md)}}
			for _, q := range []int64{0, 1, -1, 12345, -1 << 50} {
				moveIs(t, "drift", flat(1), f, ints(q), ints(r.p), ints(q+r.by), ints(-r.p))
				moveIs(t, "drift below 0", flat(1), f, ints(q), ints(-r.p), ints(q-r.by), ints(r.p))
			}
		}
	}
}

// P25.2: each parameter has its own mass and slope; all kicks are by the slopes of one place.
func TestSeveral(t *testing.T) {
	f := way(3)
	f.Step = frac(2, 1)
	f.Mass = []api.Frac{frac(1, 1), frac(2, 1), frac(4, 1)}
	moveIs(t, "masses", flat(3), f, ints(10, 20, 30), ints(4, 4, 4), ints(18, 24, 32), ints(-4, -4, -4))
	moveIs(t, "masses", flat(3), f, ints(10, 20, 30), ints(-1, -1, -1), ints(8, 19, 29), ints(1, 1, 1))
	// The product of two parameters: each one's slope is the other one. From 3, 5: kicks by 5, 3; drifts by 2 (6 + ..).
	x := tapeOf(3, par(0), par(1), two(api.NdMul, 0, 1))
	// Pushes 1 + 5, 0 + 3, 7; places 3 + 12, 5 + 3, 9 + 4 (14/4 is 3.5); pushes 6 + 8, 3 + 15, 7.
	moveIs(t, "product", x, f, ints(3, 5, 9), ints(1, 0, 7), ints(15, 8, 13), ints(-14, -18, -7))
	moveIs(t, "product, back", x, f, ints(15, 8, 13), ints(-14, -18, -7), ints(3, 5, 9), ints(1, 0, 7))
}

// P25.2: so many steps, and the push negated once, in the end.
func TestCount(t *testing.T) {
	for _, n := range []int{0, 1, 2, 3, 7, 63, 64} {
		f := way(2)
		f.Count = n
		k := int64(n)
		moveIs(t, "flat "+strconv.Itoa(n), flat(2), f, ints(5, -6), ints(3, -2), ints(5+3*k, -6-2*k), ints(-3, 2))
		// Each step: 1 is added to the push, twice; the place gets it in between.
		f.Step = frac(2, 1)
		x := tapeOf(2, par(1))
		moveIs(t, "steep "+strconv.Itoa(n), x, f, ints(5, -6), ints(0, 3), ints(5, -6+2*(3*k+k*k)), ints(0, -3-2*k))
	}
	// Between two drifts each kick is rounded by itself: twice half of 1, half up, is 2, not 1.
	f := way(1)
	f.Count = 2
	moveIs(t, "two kicks", line(1, 1), f, ints(0), ints(0), ints(1+3), ints(-4))
	moveIs(t, "two kicks below 0", line(-1, 1), f, ints(0), ints(0), ints(0), ints(0))
}

// P25.2: the steps of a hill, computed by small integers.
func TestHill(t *testing.T) {
	halfUp := func(n, d int64) int64 { return floorOf(2*n+d, 2*d) }
	g := rand.New(rand.NewPCG(25, 2))
	for range 2000 {
		sn, sd, mass := 1+g.Int64N(9), 1+g.Int64N(9), 1+g.Int64N(20)
		f := api.Frog{Grid: g.IntN(20), Level: 3, Count: g.IntN(6), Step: frac(sn, sd), Mass: []api.Frac{frac(mass, 1)}}
		q, p := g.Int64N(2001)-1000, g.Int64N(2001)-1000
		fromQ, fromP := q, p
		for range f.Count {
			p += halfUp(-q*sn, 2*sd)
			if p < 0 {
				q -= halfUp(-p*sn, sd*mass)
			} else {
				q += halfUp(p*sn, sd*mass)
			}
			p += halfUp(-q*sn, 2*sd)
		}
		moveIs(t, "hill", hill(), f, ints(fromQ), ints(fromP), ints(q), ints(-p))
	}
}

func floorOf(n, d int64) int64 {
	if n < 0 {
		return -((-n + d - 1) / d)
	}
	return n / d
}

// P25.2: where the target has no value there is no kick: the push takes the place through such places, and out of them.
func TestMoveWithoutOut(t *testing.T) {
	f := way(1)
	f.Grid, f.Step = 4, frac(2, 1)
	x := tapeOf(1, par(0), one(api.NdLog, 0), two(api.NdAdd, 1, 0), two(api.NdSub, 2, 0))
	for _, q := range []int64{0, -1, -16, -1000} {
		for _, p := range []int64{0, -1, -5} {
			f.Count = 3
			moveIs(t, "no value", x, f, ints(q), ints(p), ints(q+6*p), ints(-p))
		}
	}
	// From 16, so 1, by a kick of 16 (its slope is 1), minus 32: to -16, where there's no kick; and from there on by 32, to -48.
	f.Count = 1
	moveIs(t, "out of it", x, f, ints(16), ints(-32), ints(-16), ints(16))
	f.Count = 2
	moveIs(t, "and on", x, f, ints(16), ints(-32), ints(-48), ints(16))
	moveIs(t, "and back", x, f, ints(-48), ints(16), ints(16), ints(-32))
}

// P25.2: tapes, ways, places and pushes of any sort, now and then of another length.
func TestAnyMove(t *testing.T) {
	g := rand.New(rand.NewPCG(25, 3))
	for range 12000 {
		x := anyTape(g, 12)
		f := anyWay(g, x.Pars)
		q, p := anyInts(g, x.Pars, f.Grid), anyInts(g, x.Pars, f.Grid)
		if g.IntN(20) == 0 {
			q = anyInts(g, g.IntN(4), f.Grid)
		}
		if g.IntN(20) == 0 {
			p = anyInts(g, g.IntN(4), f.Grid)
		}
		check(t, x, f)
		numbersOf(t, x, f, q)
		move(t, x, f, q, p)
	}
}

// anyOfAll is of any kind: also of none.
func anyOfAll(g *rand.Rand) api.Tape {
	if g.IntN(4) == 0 {
		return noTapes()[g.IntN(len(noTapes())-1)]
	}
	x := anyTape(g, 6)
	for range g.IntN(2) {
		n := &x.Nodes[g.IntN(len(x.Nodes))]
		*n = api.Node{Op: uint8(g.IntN(14)), A: g.IntN(8) - 1, B: g.IntN(8) - 1, C: oneOf(g, api.Frac{}, frac(1, 3), oneOf(g, noNumbers()...))}
	}
	return x
}

// R1, P25.1, P25.2: anything at all.
func TestAnything(t *testing.T) {
	g := rand.New(rand.NewPCG(25, 4))
	for range 6000 {
		x := anyOfAll(g)
		f := anyWay(g, max(x.Pars+(g.IntN(8)-1)/6, 0)%8)
		switch g.IntN(12) {
		case 0:
			f.Grid = oneOf(g, farIntegers()...)
		case 1:
			f.Level = oneOf(g, farIntegers()...)
		case 2:
			f.Count = oneOf(g, farIntegers()...)
		case 3:
			f.Step = oneOf(g, noNumbers()...)
		case 4:
			for i := range f.Mass {
				f.Mass[i] = oneOf(g, append(noNumbers(), someNumbers()...)...)
			}
		}
		q, p := anyInts(g, max(x.Pars, 0)%8, 4), anyInts(g, max(x.Pars, 0)%8, 4)
		check(t, x, f)
		numbersOf(t, x, f, q)
		move(t, x, f, q, p)
	}
}

// Errors: the tape, then the way, then the lists' lengths and the integers' limbs.
func TestRefusals(t *testing.T) {
	x := tapeOf(2, par(0), par(1), two(api.NdAdd, 0, 1))
	wrong := way(2)
	wrong.Step = frac(0, 1)
	lists := [][]api.Int{nil, {}, ints(1), ints(1, 2), ints(1, 2, 3), slices.Repeat(ints(0), mostPars), intsOf(big.NewInt(1), pow2(fineBits))}
	for _, l := range lists {
		for _, f := range []api.Frog{{}, wrong, way(1), way(3)} {
			if _, e := numbersOf(t, x, f, l); e != api.ErrArg {
				t.Error(e)
			}
			moveFails(t, "way", api.ErrArg, x, f, ints(1, 2), l)
			moveFails(t, "way", api.ErrArg, x, f, l, ints(1, 2))
		}
		if len(l) == 2 && len(l[1].M) == 1 {
			continue
		}
		if _, e := numbersOf(t, x, way(2), l); e != api.ErrArg {
			t.Error(e)
		}
		for n := range 3 {
			f := way(2)
			f.Count = n
			moveFails(t, "push", api.ErrArg, x, f, ints(1, 2), l)
			moveFails(t, "place", api.ErrArg, x, f, l, ints(1, 2))
			moveFails(t, "both", api.ErrArg, x, f, l, l)
		}
	}
	// No parameter: no list is too short.
	for _, l := range [][]api.Int{nil, {}} {
		moveIs(t, "no parameter", tapeOf(0, number(1, 1)), way(0), nil, l, nil, nil)
		moveFails(t, "no parameter", api.ErrArg, tapeOf(0, number(1, 1)), way(0), ints(1), l)
		moveFails(t, "no parameter", api.ErrArg, tapeOf(0, number(1, 1)), way(0), l, ints(1))
	}
	if q, p, e := frog.Move(api.Tape{}, api.Frog{}, nil, nil); q != nil || p != nil || e != api.ErrTape {
		t.Error(q, p, e)
	}
}
