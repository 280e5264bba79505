package frog_test

import (
	"math/big"
	"testing"

	"stepstone/api"
)

func one1() *big.Int { return big.NewInt(1) }

func plus(n *big.Int, more int64) *big.Int { return new(big.Int).Add(n, big.NewInt(more)) }

// either asks the same of both signs: of a place and a push, and of 0 minus them.
func either(t *testing.T, what string, x api.Tape, f api.Frog, at, by *big.Int, want api.Errno) {
	t.Helper()
	for range 2 {
		if _, _, e := move(t, x, f, intsOf(at), intsOf(by)); e != want {
			t.Errorf("%s: Move of %s, %s, %s, %s: %d, want %d", what, shownTape(x), shownWay(f), cut(at.String()), cut(by.String()), e, want)
		}
		at, by = minus(at), minus(by)
	}
}

// Errors: places and pushes of as many limbs as there may be, and of one more, also with limbs of 0 on top.
func TestLongLists(t *testing.T) {
	f, slow := way(2), fracOf(whole(pow2(2*fineBits)))
	f.Mass = []api.Frac{slow, slow}
	for n := range 3 {
		f.Count = n
		for _, n := range []*big.Int{near(fineBits, -9), pow2(fineBits - 1), near(fineBits-64, 3), pow2(fineBits), near(fineBits, 1), near(fineBits+64, -1), near(mostBits, -1), pow2(mostBits), near(2*mostBits, 1)} {
			want := api.OK
			if n.BitLen() > fineBits {
				want = api.ErrArg
			}
			for zeros := range 3 {
				for _, n := range []*big.Int{n, minus(n)} {
					l, small := []api.Int{ints(1)[0], topped(intOf(n), zeros)}, []api.Int{topped(ints(0)[0], zeros), topped(ints(-3)[0], zeros*40)}
					if _, e := numbersOf(t, flat(2), f, l); e != want {
						t.Errorf("Numbers of %s: %d, want %d", cut(n.String()), e, want)
					}
					for _, lists := range [][2][]api.Int{{l, small}, {small, l}} {
						if _, _, e := move(t, flat(2), f, lists[0], lists[1]); e != want {
							t.Errorf("Move of %s: %d, want %d", cut(n.String()), e, want)
						}
					}
				}
			}
		}
	}
}

// Errors: ErrBig of a place: at the last integer that is not too long, and at the first that is.
func TestLongPlace(t *testing.T) {
	f, last := way(1), near(fineBits, -1)
	either(t, "it stays", flat(1), f, last, big.NewInt(0), api.OK)
	either(t, "to the last one", flat(1), f, plus(last, -1), big.NewInt(1), api.OK)
	either(t, "beyond it", flat(1), f, last, big.NewInt(1), api.ErrBig)
	either(t, "beyond it", flat(1), f, plus(last, -4), big.NewInt(5), api.ErrBig)
	either(t, "back from it", flat(1), f, last, big.NewInt(-1), api.OK)
	either(t, "by the last one", flat(1), f, big.NewInt(0), last, api.OK)
	either(t, "by the last one", flat(1), f, big.NewInt(1), last, api.ErrBig)
	either(t, "from end to end", flat(1), f, last, minus(last), api.OK)
	f.Count = 3
	either(t, "to the last one", flat(1), f, plus(last, -6), big.NewInt(2), api.OK)
	either(t, "beyond it", flat(1), f, plus(last, -5), big.NewInt(2), api.ErrBig)
	f.Count = 0
	either(t, "no step", flat(1), f, last, last, api.OK)
	// The second one of two is too long.
	f = way(2)
	moveIs(t, "two", flat(2), f, intsOf(one1(), plus(last, -1)), ints(1, 1), intsOf(big.NewInt(2), last), ints(-1, -1))
	moveFails(t, "two", api.ErrBig, flat(2), f, intsOf(one1(), last), ints(1, 1))
	moveFails(t, "two", api.ErrBig, flat(2), f, intsOf(last, one1()), ints(1, 1))
}

// Errors: ErrBig of a push, by kicks of 1, or of -1, with a mass so great that its place drifts by 1 at most.
func TestLongPush(t *testing.T) {
	f, last := way(1), near(fineBits, -1)
	f.Step, f.Mass = frac(2, 1), []api.Frac{fracOf(whole(pow2(fineBits + 3)))}
	for _, r := range []struct {
		what  string
		slope int64
		p     *big.Int
		want  api.Errno
	}{
		{"to the last one", 1, plus(last, -2), api.OK},
		{"beyond it", 1, plus(last, -1), api.ErrBig},
		{"beyond it", 1, last, api.ErrBig},
		{"back from it", -1, last, api.OK},
		{"to the last one", -1, plus(minus(last), 2), api.OK},
		{"beyond it", -1, plus(minus(last), 1), api.ErrBig},
		{"back from it", 1, minus(last), api.OK},
	} {
		if _, _, e := move(t, line(r.slope, 1), f, ints(0), intsOf(r.p)); e != r.want {
			t.Errorf("%s: %d, want %d", r.what, e, r.want)
		}
		// The second one of two.
		two := way(2)
		two.Step, two.Mass = f.Step, append(f.Mass[:1:1], f.Mass...)
		x := line(r.slope, 1)
		x.Pars, x.Nodes[0].A = 2, 1
		if _, _, e := move(t, x, two, ints(0, 0), intsOf(one1(), r.p)); e != r.want {
			t.Errorf("%s, the second one: %d, want %d", r.what, e, r.want)
		}
	}
}

// P25.2: a place that has more limbs in between, and fewer in the end, is no error.
func TestLongBetween(t *testing.T) {
	f := way(1)
	f.Count = 2
	part := func(n int64) *big.Int {
		x := product(pow2(fineBits), big.NewInt(n))
		return x.Div(x, big.NewInt(1000))
	}
	// One of a hill's steps takes 0.9 and 0.6 to 1.05 and 0.375, two take it to 0.15 and 0.975.
	either(t, "there and back", hill(), f, part(900), part(600), api.OK)
	f.Count = 1
	either(t, "there", hill(), f, part(900), part(600), api.ErrBig)
	f.Count = 2
	either(t, "a push that stays", hill(), f, part(950), part(600), api.ErrBig)
}

// Errors: ErrBig of a number on the way: half of the step has no room for its denominator.
func TestLongHalf(t *testing.T) {
	f := way(1)
	for _, r := range []struct {
		d    *big.Int
		want api.Errno
	}{
		{near(mostBits-1, -1), api.OK},
		{near(mostBits-1, 1), api.ErrBig},
		{near(mostBits, -1), api.ErrBig},
		{pow2(mostBits - 2), api.OK},
		{pow2(mostBits - 1), api.ErrBig},
	} {
		f.Step, f.Count = fracOf(ratio(one1(), r.d)), 1
		either(t, "half", flat(1), f, big.NewInt(5), big.NewInt(7), r.want)
		f.Count = 0
		either(t, "no half", flat(1), f, big.NewInt(5), big.NewInt(7), api.OK)
	}
	// In lowest terms, 2 by 2^131072 less 2 is the same as the first one.
	f.Step, f.Count = timesOf(ratio(one1(), near(mostBits-1, -1)), big.NewInt(2)), 1
	either(t, "not in lowest terms", flat(1), f, big.NewInt(5), big.NewInt(7), api.OK)
}

// Errors: ErrBig of a kick's products: half of the step times the number, times the grid.
func TestLongKick(t *testing.T) {
	f := way(1)
	for _, r := range []struct {
		what string
		step *big.Rat
		x    api.Tape
		grid int
		want api.Errno
	}{
		// The denominators of half of the step, and of a number of 1/256.
		{"denominators", ratio(one1(), near(mostBits-9, -1)), line(1, 256), 0, api.OK},
		{"denominators", ratio(one1(), near(mostBits-8, -1)), line(1, 256), 0, api.ErrBig},
		{"denominators", ratio(one1(), near(mostBits-8, -1)), line(1, 128), 0, api.OK},
		{"denominators", ratio(one1(), near(mostBits-8, -1)), line(1, 512), 0, api.OK},
		{"denominators", ratio(one1(), near(mostBits-8, -1)), line(-1, 512), 0, api.ErrBig},
		{"denominators", ratio(one1(), near(mostBits-17, -1)), line(1, 1<<16), 4, api.OK},
		{"denominators", ratio(one1(), near(mostBits-16, -1)), line(1, 1<<16), 4, api.ErrBig},
		// The numerators, of steps that are small nevertheless.
		{"numerators", ratio(near(mostBits-2, -2), near(mostBits-1, -1)), line(7, 1), 0, api.OK},
		{"numerators", ratio(near(mostBits-1, -2), near(mostBits-1, -1)), line(7, 1), 0, api.ErrBig},
		{"numerators", ratio(near(mostBits-1, -2), near(mostBits-1, -1)), line(3, 1), 0, api.OK},
		{"the grid", ratio(near(mostBits-59, -2), near(mostBits-1, -1)), line(1, 1), 60, api.OK},
		{"the grid", ratio(near(mostBits-58, -2), near(mostBits-1, -1)), line(1, 1), 60, api.ErrBig},
		{"the grid", ratio(near(mostBits-58, -2), near(mostBits-1, -1)), line(1, 1), 59, api.OK},
	} {
		f.Step, f.Grid = fracOf(r.step), r.grid
		if _, _, e := move(t, r.x, f, ints(0), ints(0)); e != r.want {
			t.Errorf("%s: %d, want %d", r.what, e, r.want)
		}
	}
}

// Errors: ErrBig of a drift's products: the step times the push, divided by the mass.
func TestLongDrift(t *testing.T) {
	f := way(1)
	// What 2^131072 less 1 is divided by for 2^4096 less 1.
	lastMass := pow2(mostBits - fineBits)
	lastMass.Add(lastMass, pow2(mostBits-2*fineBits))
	for _, r := range []struct {
		what       string
		step, mass *big.Rat
		p          int64
		want       api.Errno
	}{
		{"step times push", ratio(near(mostBits-2, -1), near(mostBits-1, -1)), rat(1, 1), 4, api.OK},
		{"step times push", ratio(near(mostBits-2, -1), near(mostBits-1, -1)), rat(1, 1), 5, api.ErrBig},
		{"step times push", whole(near(mostBits-2, -1)), whole(near(mostBits-2, -1)), 4, api.OK},
		{"step times push", whole(near(mostBits-2, -1)), whole(near(mostBits-2, -1)), 5, api.ErrBig},
		{"denominators", ratio(one1(), near(mostBits-1, -1)), whole(big.NewInt(1)), 1, api.OK},
		{"denominators", ratio(one1(), near(mostBits-1, -1)), whole(big.NewInt(2)), 1, api.OK},
		{"denominators", ratio(one1(), near(mostBits-1, -1)), whole(big.NewInt(3)), 1, api.ErrBig},
		{"denominators", ratio(one1(), near(mostBits-2, -1)), whole(big.NewInt(3)), 1, api.OK},
		{"numerators", ratio(near(mostBits/2, -1), near(mostBits/2, 1)), ratio(near(mostBits/2-3, 1), near(mostBits/2, 1)), 1, api.OK},
		{"numerators", ratio(near(mostBits/2, 3), near(mostBits/2, 5)), ratio(near(mostBits/2-3, 1), near(mostBits/2, 1)), 1, api.ErrBig},
		{"the integer", whole(near(mostBits, -1)), rat(1, 1), 0, api.OK},
		{"the integer", whole(near(mostBits, -1)), whole(near(mostBits, -1)), 1, api.OK},
		{"the integer", whole(near(mostBits, -1)), whole(lastMass), 1, api.OK},
		{"the integer", whole(near(mostBits, -1)), whole(pow2(mostBits - fineBits)), 1, api.ErrBig},
		{"the integer", whole(near(mostBits, -1)), rat(1, 1), 1, api.ErrBig},
	} {
		f.Step, f.Mass = fracOf(r.step), []api.Frac{fracOf(r.mass)}
		either(t, r.what, flat(1), f, big.NewInt(0), big.NewInt(r.p), r.want)
	}
}
