package fore_test

import (
	"math"
	"math/big"
	"math/rand/v2"
	"slices"
	"strconv"
	"testing"

	"stepstone/api"
	"stepstone/fore"
)

// P18.3: an ordinary tape, at each level: no narrower, and no wider, than by its bits.
func TestAt(t *testing.T) {
	x := ordinary()
	for level := range mostLevel + 1 {
		a := at(t, x, nums("1", "-1", "5"), level)
		// The logarithm of the exponential of -121/343, times the square root of 7.
		if a.Kind != api.IvSome || !isNarrow(a, 32*level+24) || isNarrow(a, 32*level+40) {
			t.Errorf("level %d: %s", level, shown(a))
		}
		lo, _ := ratOf(a.Lo).Float64()
		if want := -121.0 / 343 * math.Sqrt(7); math.Abs(lo-want) > 1e-6 || level > 0 && math.Abs(lo-want) > 1e-12 {
			t.Errorf("level %d: %s, want %v", level, shown(a), want)
		}
		for i := range x.Nodes {
			at(t, withOut(x, i), nums("1", "-1", "5"), level)
			at(t, withOut(x, i), nums("-3p-2", "7p-1", "0"), level)
		}
	}
}

// Errors: which levels there are.
func TestAtLevels(t *testing.T) {
	tapes := []api.Tape{tapeOf(1, par(0)), tapeOf(1, number(1, 3)), tapeOf(1, par(0), one(api.NdExp, 0))}
	for _, x := range tapes {
		for _, level := range []int{0, 1, mostLevel - 1, mostLevel} {
			at(t, x, nums("3p-2"), level)
		}
		for _, level := range noLevels() {
			failsAt(t, "level", api.ErrArg, x, nums("3p-2"), level)
			failsAt(t, "level, and no point", api.ErrArg, x, nil, level)
			failsAt(t, "level, and what the point has", api.ErrArg, x, noDyads()[:1], level)
		}
	}
	for _, level := range noLevels() {
		failsAt(t, "level, without a parameter", api.ErrArg, tapeOf(0, number(1, 3)), nil, level)
	}
	for level := range mostLevel + 1 {
		p := 32 * (level + 1)
		want := some(rounded(big.NewRat(1, 3), p, false), rounded(big.NewRat(1, 3), p, true))
		if a := at(t, tapeOf(0, number(1, 3)), nil, level); !same(a, want) {
			t.Errorf("1/3 at level %d is %s, want %s", level, shown(a), shown(want))
		}
	}
}

// Errors: how many numbers a point has.
func TestAtLength(t *testing.T) {
	for _, pars := range []int{0, 1, 2, 3, mostPars - 1, mostPars} {
		x := tapeOf(pars, number(1, 3))
		if pars > 0 {
			x = tapeOf(pars, par(0), par(pars-1), two(api.NdSub, 0, 1), one(api.NdNeg, 2), par(pars/2))
			x.Out = 3
		}
		for _, n := range []int{0, 1, 2, 3, pars - 2, pars - 1, pars, pars + 1, 2*pars + 1, 10000} {
			q := anyPoint(rand.New(rand.NewPCG(18, 4)), max(n, 0))
			if len(q) == pars {
				at(t, x, q, 2)
			} else {
				failsAt(t, "length", api.ErrArg, x, q, 2)
				failsAt(t, "length, and the level", api.ErrArg, x, q, -1)
			}
		}
	}
	at(t, tapeOf(0, number(1, 3)), []api.Dyad{}, 0)
	failsAt(t, "no point", api.ErrArg, tapeOf(2, number(1, 1)), nil, 0)
}

// Errors: a number that is not valid, at each place, whether a step has it or not, and whether Out depends on it.
func TestAtNotValid(t *testing.T) {
	tapes := []api.Tape{tapeOf(3, number(1, 1)), tapeOf(3, par(1)), tapeOf(3, par(0), par(1), par(2), two(api.NdAdd, 0, 1), two(api.NdMul, 2, 3)), withOut(tapeOf(3, par(0), par(1), par(2)), 1)}
	for _, x := range tapes {
		for k, a := range noDyads() {
			for i := range 3 {
				q := nums("1", "2", "3")
				q[i] = a
				failsAt(t, "number "+strconv.Itoa(k)+" at "+strconv.Itoa(i), api.ErrArg, x, q, 4)
			}
			failsAt(t, "length, too", api.ErrArg, x, []api.Dyad{a}, 4)
			failsAt(t, "length, too", api.ErrArg, tapeOf(0, number(1, 1)), []api.Dyad{a}, 4)
			failsAt(t, "level, too", api.ErrArg, x, []api.Dyad{num("1"), num("2"), a}, 31)
		}
		at(t, x, nums("1", "2", "3"), 4)
	}
}

// P18.3, R7: a point's numbers, however they are written.
func TestAtSpellings(t *testing.T) {
	x := tapeOf(2, par(0), par(1), two(api.NdMul, 0, 1), number(1, 3), two(api.NdAdd, 2, 3))
	for _, l := range spellings() {
		if a := at(t, tapeOf(1, par(0)), l[:1], 0); !same(a, some(l[0], l[0])) {
			t.Errorf("At = %s, want %s", shown(a), shown(some(l[0], l[0])))
		}
		for out := range x.Nodes {
			want := at(t, withOut(x, out), []api.Dyad{l[0], num("3p-2")}, 1)
			for _, a := range l {
				at(t, tapeOf(1, par(0)), []api.Dyad{a}, 0)
				if got := at(t, withOut(x, out), []api.Dyad{a, num("3p-2")}, 1); !same(got, want) {
					t.Errorf("Out %d of %s = %s, want %s", out, shownPoint([]api.Dyad{a}), shown(got), shown(want))
				}
				at(t, withOut(x, out), []api.Dyad{num("-5"), a}, 1)
			}
		}
	}
}

// P18.3: what is known of Out does not depend on steps that are not live, behind it or ahead of it.
func TestAtLive(t *testing.T) {
	// Steps that would be IvUndef, IvUnknown, or too great, by a parameter that Out has, too.
	ahead := tapeOf(2, par(0), number(0, 1), two(api.NdDiv, 0, 1), one(api.NdLog, 1), one(api.NdNeg, 2), two(api.NdMul, 3, 4), par(1), two(api.NdAdd, 0, 6), one(api.NdNeg, 7))
	behind := ahead
	behind.Nodes = append(slices.Clone(ahead.Nodes), two(api.NdDiv, 8, 1), one(api.NdRoot, 8), two(api.NdSub, 9, 10), one(api.NdNeed, 5))
	for _, x := range []api.Tape{ahead, behind} {
		if a := at(t, x, nums("3p-1", "4"), 0); !same(a, known("-11p-1")) {
			t.Errorf("At = %s, want -11/2", shown(a))
		}
	}
	if a := at(t, withOut(behind, 11), nums("3p-1", "4"), 0); !same(a, undef()) {
		t.Errorf("At = %s, want IvUndef", shown(a))
	}
	for out, want := range []string{"3p-1", "0", "!", "!", "!", "!", "4", "11p-1", "-11p-1", "!", "!", "!", "!"} {
		for level := range mostLevel + 1 {
			if a := at(t, withOut(behind, out), nums("3p-1", "4"), level); !same(a, known(want)) {
				t.Errorf("Out %d at level %d is %s, want %s", out, level, shown(a), want)
			}
		}
	}
	// One step that is twice live, and one that is live by itself.
	x := withOut(tapeOf(1, par(0), two(api.NdAdd, 0, 0), two(api.NdMul, 1, 1), two(api.NdSub, 2, 1), one(api.NdLog, 3)), 3)
	if a := at(t, x, nums("1"), 0); !same(a, known("2")) {
		t.Errorf("At = %s, want 2", shown(a))
	}
}

// P18.3, limits: the most steps, and the most parameters.
func TestAtLong(t *testing.T) {
	x := long(mostNodes)
	for _, level := range []int{0, mostLevel} {
		at(t, x, nums("1", "-1p-9"), level)
		at(t, withOut(x, 1), nums("1", "-1p-9"), level)
		at(t, withOut(x, mostNodes/2), nums("1", "-1p-9"), level)
	}
	var l []api.Node
	for i := range mostPars {
		l = append(l, par(i))
	}
	for i := range mostPars - 1 {
		l = append(l, two(api.NdAdd, i+1, max(i, len(l)-1)))
	}
	q := anyPoint(rand.New(rand.NewPCG(18, 5)), mostPars)
	for _, level := range []int{0, 1, mostLevel} {
		at(t, tapeOf(mostPars, l...), q, level)
	}
}

// P18.3: random tapes and points; Out is what Run says of it, for the box that Point makes.
func TestAtAny(t *testing.T) {
	g := rand.New(rand.NewPCG(18, 6))
	met := map[uint8]int{}
	for range 3000 {
		x := anyTape(g, 25)
		q, level := anyPoint(g, x.Pars), oneOf(g, 0, 0, 1, 2, g.IntN(mostLevel+1))
		a := at(t, x, q, level)
		met[a.Kind]++
		p, _ := fore.Bits(level)
		box, e := fore.Point(q)
		l, f := fore.Run(x, box, p)
		if e != api.OK || f != api.OK || !same(l[x.Out], a) {
			t.Errorf("At of %s, %s, level %d = %s, but Run %s, %d, %d", shownTape(x), shownPoint(q), level, shown(a), shown(l...), e, f)
		}
	}
	for _, kind := range []uint8{api.IvUnknown, api.IvSome, api.IvUndef} {
		if met[kind] < 20 {
			t.Errorf("only %d of kind %d", met[kind], kind)
		}
	}
}
