package frog_test

import (
	"math/big"
	"math/rand/v2"
	"slices"
	"testing"

	"stepstone/api"
	"stepstone/frog"
)

func sameLists(a, b []api.Int) bool { return sameInts(a, bigsOf(b)) }

// wayBack moves what a move returned, and asks whether that's where it began. It tells whether there was no error.
func wayBack(t *testing.T, x api.Tape, f api.Frog, q, p []api.Int) bool {
	t.Helper()
	q1, p1, e := frog.Move(x, f, q, p)
	if e != api.OK {
		return false
	}
	q2, p2, e := frog.Move(x, f, q1, p1)
	if e != api.OK {
		return false
	}
	if !sameLists(q2, q) || !sameLists(p2, p) {
		t.Fatalf("Move of Move of %s, %s, %s, %s: %s, %s", shownTape(x), shownWay(f), shownInts(bigsOf(q)), shownInts(bigsOf(p)), shownInts(bigsOf(q2)), shownInts(bigsOf(p2)))
	}
	return true
}

// P25.3: of any tapes, ways, places and pushes.
func TestBack(t *testing.T) {
	g := rand.New(rand.NewPCG(25, 5))
	done := 0
	for range 9000 {
		x := anyTape(g, 14)
		f := anyWay(g, x.Pars)
		if wayBack(t, x, f, anyInts(g, x.Pars, f.Grid), anyInts(g, x.Pars, f.Grid)) && f.Count > 0 && x.Pars > 0 {
			done++
		}
	}
	if done < 4000 {
		t.Errorf("only %d moves", done)
	}
}

// partly have a value in a part of the places only: where both parameters are above 0; where they differ; where a root is.
func partly() []api.Tape {
	return []api.Tape{
		tapeOf(2, par(0), par(1), one(api.NdLog, 0), one(api.NdLog, 1), two(api.NdAdd, 2, 3), two(api.NdSub, 4, 0), two(api.NdSub, 5, 1)),
		tapeOf(2, par(0), par(1), two(api.NdSub, 0, 1), two(api.NdDiv, 0, 2)),
		tapeOf(2, par(0), par(1), two(api.NdMul, 0, 1), one(api.NdRoot, 2), one(api.NdNeg, 3)),
		tapeOf(2, par(0), par(1), one(api.NdNeed, 0), two(api.NdMul, 0, 1), two(api.NdMul, 3, 3), two(api.NdSub, 2, 4)),
	}
}

// P25.3: also where the target has no value, on the way in, on the way out, and beyond.
func TestBackWithoutValue(t *testing.T) {
	g := rand.New(rand.NewPCG(25, 6))
	for _, x := range partly() {
		without := 0
		for range 500 {
			f := anyWay(g, 2)
			f.Grid, f.Count = g.IntN(6), 1+g.IntN(5)
			q, p := ints(g.Int64N(81)-40, g.Int64N(81)-40), ints(g.Int64N(81)-40, g.Int64N(81)-40)
			if !wayBack(t, x, f, q, p) {
				t.Fatal("an error")
			}
			if l, _ := frog.Numbers(x, f, q); !slices.ContainsFunc(l, func(a api.Frac) bool { return len(a.N.M) > 0 }) {
				without++
			}
		}
		if without < 5 || without == 500 {
			t.Errorf("%s: %d of 500 places without a value", shownTape(x), without)
		}
	}
}

// P25.3: integers of any length, as long as there's no error.
func TestBackFar(t *testing.T) {
	g := rand.New(rand.NewPCG(25, 7))
	done := 0
	for range 1500 {
		f := anyWay(g, 2)
		x := oneOf(g, append(partly(), flat(2), tapeOf(2, par(0), par(1), two(api.NdMul, 0, 1)))...)
		long := func() api.Int {
			n := anyBits(g, fineBits)
			if g.IntN(2) == 0 {
				n.Neg(n)
			}
			return intOf(n)
		}
		if wayBack(t, x, f, []api.Int{long(), long()}, []api.Int{long(), long()}) {
			done++
		}
	}
	if done < 300 {
		t.Errorf("only %d moves", done)
	}
}

// everyPair is all pairs of a place and a push of integers from -r to r.
func everyPair(pars int, r int64) [][2][]api.Int {
	lists := [][]int64{nil}
	for range 2 * pars {
		var more [][]int64
		for _, l := range lists {
			for n := -r; n <= r; n++ {
				more = append(more, append(l[:len(l):len(l)], n))
			}
		}
		lists = more
	}
	var out [][2][]api.Int
	for _, l := range lists {
		out = append(out, [2][]api.Int{ints(l[:pars]...), ints(l[pars:]...)})
	}
	return out
}

// P25.4: no two pairs become the same one: of all those in a box.
func TestApart(t *testing.T) {
	g := rand.New(rand.NewPCG(25, 8))
	one := everyPair(1, 8)
	two := everyPair(2, 2)
	for _, x := range append(partly(), hill(), line(1, 3), flat(1), tapeOf(1, par(0), logOf0(), par(0)), flat(2), tapeOf(2, par(0), par(1), api.Node{Op: api.NdMul, B: 1})) {
		pairs := one
		if x.Pars == 2 {
			pairs = two
		}
		for range 3 {
			f := anyWay(g, x.Pars)
			f.Grid = g.IntN(4)
			seen := map[string]bool{}
			for _, pair := range pairs {
				q, p, e := frog.Move(x, f, pair[0], pair[1])
				if e != api.OK {
					t.Fatal(e)
				}
				seen[shownInts(bigsOf(append(q, p...)))] = true
			}
			if len(seen) != len(pairs) {
				t.Errorf("%s, %s: %d pairs of %d", shownTape(x), shownWay(f), len(seen), len(pairs))
			}
		}
	}
}

func logOf0() api.Node { return one(api.NdLog, 0) }

// P25.4: pairs that differ in one integer, by 1 or by more, are different after a move.
func TestDifferInOne(t *testing.T) {
	g := rand.New(rand.NewPCG(25, 9))
	for range 4000 {
		x := anyTape(g, 12)
		if x.Pars == 0 {
			continue
		}
		f := anyWay(g, x.Pars)
		q, p := anyInts(g, x.Pars, f.Grid), anyInts(g, x.Pars, f.Grid)
		l, r := slices.Clone(q), slices.Clone(p)
		changed := oneOf(g, l, r)
		i := g.IntN(x.Pars)
		changed[i] = intOf(plus(bigOf(changed[i]), oneOf(g, int64(-1), 1, 1+g.Int64N(1000))))
		q1, p1, e := frog.Move(x, f, q, p)
		q2, p2, f2 := frog.Move(x, f, l, r)
		if e != api.OK || f2 != api.OK {
			continue
		}
		if sameLists(q1, q2) && sameLists(p1, p2) {
			t.Errorf("%s, %s, %s, %s and %s, %s: both %s, %s", shownTape(x), shownWay(f), shownInts(bigsOf(q)), shownInts(bigsOf(p)), shownInts(bigsOf(l)), shownInts(bigsOf(r)), shownInts(bigsOf(q1)), shownInts(bigsOf(p1)))
		}
	}
}

// P25.4: without steps the push is negated, and nothing else changes: whatever the step, the masses and the target are.
func TestNoSteps(t *testing.T) {
	g := rand.New(rand.NewPCG(25, 10))
	for i := range 3000 {
		x := anyTape(g, 8)
		f := anyWay(g, x.Pars)
		f.Count = 0
		if i%50 == 0 {
			f.Step = oneOf(g, someNumbers()...)
		}
		q, p := anyInts(g, x.Pars, f.Grid), anyInts(g, x.Pars, f.Grid)
		if i%3 == 0 && x.Pars > 0 {
			q[0], p[0] = intOf(near(fineBits, -1)), intOf(minus(near(fineBits, -1)))
		}
		var negated []*big.Int
		for _, n := range bigsOf(p) {
			negated = append(negated, minus(n))
		}
		gotQ, gotP, e := frog.Move(x, f, q, p)
		if e != api.OK || !sameInts(gotQ, bigsOf(q)) || !sameInts(gotP, negated) {
			t.Fatalf("%s, %s: %s, %s, %d", shownTape(x), shownWay(f), shownInts(bigsOf(gotQ)), shownInts(bigsOf(gotP)), e)
		}
	}
}
