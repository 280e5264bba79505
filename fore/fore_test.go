package fore_test

import (
	"math"
	"math/big"
	"math/rand/v2"
	"slices"
	"strconv"
	"testing"

	"stepstone/api"
	"stepstone/fore"
	"stepstone/ivl"
)

// The chapter's examples.
func TestExamples(t *testing.T) {
	x := tapeOf(1, par(0), number(2, 1), two(api.NdMul, 0, 1), one(api.NdExp, 2))
	if a, e := fore.At(x, nums("0"), 0); e != api.OK || !same(a, known("1")) {
		t.Errorf("At = %s, %d, want 1 to 1", shown(a), e)
	}
	l, e := fore.Run(x, knowns("0 1"), 4)
	if want := knowns("0 1, 2, 0 2, 1 15p-1"); e != api.OK || !allSame(l, want) {
		t.Errorf("Run = %s, %d, want %s", shown(l...), e, shown(want...))
	}
	x = tapeOf(1, par(0), one(api.NdLog, 0))
	if a, e := fore.At(x, nums("0"), 0); e != api.OK || !same(a, undef()) {
		t.Errorf("At = %s, %d, want IvUndef", shown(a), e)
	}
	l, e = fore.Run(x, knowns("0 1"), 4)
	if want := knowns("0 1, ?"); e != api.OK || !allSame(l, want) {
		t.Errorf("Run = %s, %d, want %s", shown(l...), e, shown(want...))
	}
}

// P18.1: the bits of each level, and what is none.
func TestBits(t *testing.T) {
	want := 32
	for level := range mostLevel + 1 {
		if p, e := fore.Bits(level); p != want || e != api.OK {
			t.Errorf("Bits(%d) = %d, %d, want %d", level, p, e, want)
		}
		want += 32
	}
	if p, e := fore.Bits(mostLevel); p != 992 || e != api.OK {
		t.Errorf("Bits(%d) = %d, %d, want 992", mostLevel, p, e)
	}
	for _, level := range noLevels() {
		if p, e := fore.Bits(level); p != 0 || e != api.ErrArg {
			t.Errorf("Bits(%d) = %d, %d, want ErrArg", level, p, e)
		}
	}
	for level := -1000; level < 2000; level++ {
		if p, e := fore.Bits(level); (e == api.OK) != (0 <= level && level <= 30) || p%32 != 0 || p < 0 {
			t.Errorf("Bits(%d) = %d, %d", level, p, e)
		}
	}
}

// spellings are ways of writing one number; the first one is normal.
func spellings() [][]api.Dyad {
	padded := func(n int, l ...uint64) api.Nat { return append(api.Nat(l), make(api.Nat, n)...) }
	minus := func(m api.Nat) api.Int { return api.Int{Neg: true, M: m} }
	return [][]api.Dyad{
		{{}, {M: api.Int{M: api.Nat{}}}, {M: minus(nil)}, {E: 1}, {E: -far}, {M: minus(padded(3)), E: far}, {M: api.Int{M: padded(3000)}, E: 7}},
		{small(1, 0), small(2, -1), small(1<<40, -40), written(pow2(64), -64), written(pow2(mostBits-1), 1-mostBits), {M: api.Int{M: padded(1, 1)}}, {M: api.Int{M: padded(4000, 8)}, E: -3}},
		{small(-3, 2), small(-12, 0), small(-6, 1), {M: minus(padded(2, 3)), E: 2}, {M: minus(padded(2, 0, 3)), E: -62}},
		{written(plus(pow2(64), 1), -9), written(new(big.Int).Lsh(plus(pow2(64), 1), 200), -209), {M: api.Int{M: padded(5, 1, 1)}, E: -9}},
		{small(1, far), small(2, far-1), written(pow2(2000), far-2000)},
		{small(-1, -far), {M: minus(padded(1, 1)), E: -far}},
		{small(3, -far+5), {M: api.Int{M: padded(1, 3<<5)}, E: -far}},
		{written(allOnes(mostBits), -40), {M: api.Int{M: append(natOf(allOnes(mostBits)), 0)}, E: -40}},
	}
}

// noDyads are not valid, or have a normal form that is not.
func noDyads() []api.Dyad {
	long := append(make(api.Nat, api.MaxLimbs), 1)
	return []api.Dyad{
		small(1, far+1), small(-1, far+1), small(1, -far-1), small(2, -far-1), {E: far + 1}, {E: -far - 1}, {E: math.MinInt}, {E: math.MaxInt}, small(3, math.MaxInt), small(-3, math.MinInt),
		{M: api.Int{M: long}}, {M: api.Int{Neg: true, M: long}, E: -far}, {M: api.Int{M: append(slices.Clone(long), 0)}}, written(plus(pow2(mostBits), 1), -mostBits),
		small(2, far), small(-12, far-1), written(pow2(64), far), {M: api.Int{M: slices.Repeat(api.Nat{math.MaxUint64}, api.MaxLimbs+1)}},
	}
}

func isPoint(t *testing.T, q []api.Dyad, want []api.Ivl) {
	t.Helper()
	for range 2 {
		got, e := fore.Point(q)
		if e != api.OK || !allSame(got, want) {
			t.Errorf("Point of %s = %s, %d, want %s", shownPoint(q), shown(got...), e, shown(want...))
		}
		for _, a := range got {
			if !ivl.Check(a) {
				t.Errorf("Point of %s has %s, which is not valid", shownPoint(q), shown(a))
			}
		}
	}
}

// P18.1, R7: each number of a point is both bounds, however it is written.
func TestPoint(t *testing.T) {
	isPoint(t, nil, nil)
	isPoint(t, []api.Dyad{}, nil)
	isPoint(t, nums("5"), knowns("5 5"))
	isPoint(t, nums("1p-1", "-3p4", "0", "1p-1"), knowns("1p-1 1p-1, -3p4 -3p4, 0 0, 1p-1 1p-1"))
	var all []api.Dyad
	var want []api.Ivl
	for _, l := range spellings() {
		for _, x := range l {
			isPoint(t, []api.Dyad{x}, []api.Ivl{some(l[0], l[0])})
			isPoint(t, []api.Dyad{num("7"), x}, []api.Ivl{known("7"), some(l[0], l[0])})
			all, want = append(all, x), append(want, some(l[0], l[0]))
		}
	}
	isPoint(t, all, want)
	isPoint(t, slices.Repeat(nums("3p-5"), 5000), slices.Repeat(knowns("3p-5"), 5000))
	g := rand.New(rand.NewPCG(18, 1))
	for n := range 300 {
		q := anyPoint(g, n)
		isPoint(t, q, pointOf(q))
	}
}

// P18.1: a number that is not valid, at each place.
func TestPointNotValid(t *testing.T) {
	for k, x := range noDyads() {
		for _, n := range []int{1, 2, 3, 200} {
			for _, i := range []int{0, n / 2, n - 1} {
				q := slices.Repeat(nums("3p-1"), n)
				q[i] = x
				if got, e := fore.Point(q); e != api.ErrArg || got != nil {
					t.Errorf("number %d at %d: Point of %s = %s, %d, want ErrArg", k, i, shownPoint(q[:min(n, 3)]), shown(got...), e)
				}
			}
		}
		if got, e := fore.Point(noDyads()); e != api.ErrArg || got != nil {
			t.Errorf("Point of %d numbers that are not valid = %s, %d", len(noDyads()), shown(got...), e)
		}
	}
}

// noTape is one that is not valid, and why.
type noTape struct {
	what string
	tape api.Tape
}

// noTapes differ from a tape of two parameters each by one thing.
func noTapes() []noTape {
	changed := func(what string, do func(x *api.Tape)) noTape {
		x := tapeOf(2, par(0), par(1), number(1, 2), two(api.NdAdd, 0, 1), one(api.NdExp, 3))
		x.Tells = []api.Tell{{Name: "a", At: 3}}
		do(&x)
		return noTape{what, x}
	}
	l := []noTape{
		changed("no node", func(x *api.Tape) { x.Nodes = nil }),
		changed("nothing but parameters", func(x *api.Tape) { *x = api.Tape{Pars: 2} }),
		changed("Out behind", func(x *api.Tape) { x.Out = 5 }),
		changed("Out ahead", func(x *api.Tape) { x.Out = -1 }),
		changed("told behind", func(x *api.Tape) { x.Tells[0].At = 5 }),
		changed("told ahead", func(x *api.Tape) { x.Tells[0].At = -1 }),
		changed("a parameter too many", func(x *api.Tape) { x.Nodes[1].A = 2 }),
		changed("a parameter below 0", func(x *api.Tape) { x.Nodes[1].A = -1 }),
		changed("a parameter with a step", func(x *api.Tape) { x.Nodes[1].B = 1 }),
		changed("a step of itself", func(x *api.Tape) { x.Nodes[3].A = 3 }),
		changed("a step of one behind", func(x *api.Tape) { x.Nodes[3].B = 4 }),
		changed("a step of none", func(x *api.Tape) { x.Nodes[4].A = -1 }),
		changed("a second step too many", func(x *api.Tape) { x.Nodes[4].B = 1 }),
		changed("a number too many", func(x *api.Tape) { x.Nodes[4].C = x.Nodes[2].C }),
		changed("a number with a step", func(x *api.Tape) { x.Nodes[2].A = 1 }),
		changed("no number", func(x *api.Tape) { x.Nodes[2].C = api.Frac{} }),
		changed("a number that is not normal", func(x *api.Tape) { x.Nodes[2].C = api.Frac{N: api.Int{M: api.Nat{2}}, D: api.Nat{4}} }),
		changed("a number with limbs too many", func(x *api.Tape) { x.Nodes[2].C.D = api.Nat{2, 0} }),
		changed("one of many nodes", func(x *api.Tape) {
			x.Nodes = append(x.Nodes, slices.Repeat([]api.Node{par(1)}, mostNodes-6)...)
			x.Nodes = append(x.Nodes, par(2))
		}),
		changed("too many nodes", func(x *api.Tape) { x.Nodes = append(x.Nodes, slices.Repeat([]api.Node{par(1)}, mostNodes-4)...) }),
	}
	for _, op := range []uint8{0, 12, 13, 127, 255} {
		l = append(l, changed("Op "+strconv.Itoa(int(op)), func(x *api.Tape) { x.Nodes[3].Op = op }))
	}
	for _, n := range append(farIntegers(), -1, 0, 1, mostPars+1) {
		l = append(l, changed("Pars "+strconv.Itoa(n), func(x *api.Tape) { x.Pars = n }))
	}
	for _, n := range farIntegers() {
		l = append(l, changed("A "+strconv.Itoa(n), func(x *api.Tape) { x.Nodes[3].A = n }), changed("Out "+strconv.Itoa(n), func(x *api.Tape) { x.Out = n }))
	}
	return l
}

// Errors: a tape that is not valid, also where all else is not.
func TestNoTape(t *testing.T) {
	boxes := [][]api.Ivl{knowns("1, 2"), nil, knowns("1"), knowns("1, 2, 3"), knowns("?, !"), {known("1"), {Kind: 3}}, {{Kind: 3}}}
	points := [][]api.Dyad{nums("1", "2"), nil, nums("1"), nums("1", "2", "3"), {num("1"), small(1, far+1)}, {small(1, far+1)}}
	for _, x := range noTapes() {
		for _, box := range boxes {
			for _, p := range []int{64, 1, mostFine, 0, -1, mostFine + 1} {
				fails(t, x.what, api.ErrTape, x.tape, box, p)
			}
		}
		for _, q := range points {
			for _, level := range []int{0, mostLevel, -1, mostLevel + 1} {
				failsAt(t, x.what, api.ErrTape, x.tape, q, level)
			}
		}
	}
}
