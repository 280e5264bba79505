package hop_test

import (
	"math/big"
	"math/rand/v2"
	"slices"
	"testing"

	"stepstone/api"
	"stepstone/hop"
)

// P27.2: transitions of any sort, by any bits, against the chapter's words; P27.4: other bits behind those that were read change nothing, and fewer do not suffice.
func TestAnyHop(t *testing.T) {
	g := rand.New(rand.NewPCG(27, 3))
	seen, errors := reached{}, map[api.Errno]int{}
	for i := range 8000 {
		x, f, box, q := anyTransition(g)
		row := anyRow(g, g.IntN(oneOf(g, 10, 60, 400)))
		if i%12 == 0 {
			f, box, q = spoilt(g, f, box, q)
		}
		got := hoppedBy(t, row, x, f, box, q, seen)
		errors[got.e]++
		if got.e != api.OK {
			continue
		}
		if other := hoppedBy(t, row[:got.read]+anyRow(g, g.IntN(20)), x, f, box, q, seen); other != got {
			t.Fatalf("%+v, and %+v with other bits behind", got, other)
		}
		if less := got.read - 1 - g.IntN(oneOf(g, 1, 3, max(got.read, 1))); less >= 0 {
			if short := hoppedBy(t, row[:less], x, f, box, q, seen); short != dryAt(less) {
				t.Fatalf("%+v, and %+v of %d bits", got, short, less)
			}
		}
	}
	for _, at := range []string{"bell", "steps", "weigh", "taken", "left", "outside"} {
		if seen[at] < 100 {
			t.Errorf("%s only %d times", at, seen[at])
		}
	}
	if errors[api.OK] < 1500 || errors[api.ErrArg] < 150 || errors[api.ErrDry] < 2000 || errors[api.ErrStuck] < 15 {
		t.Error(errors)
	}
}

// spoilt has something that is not accepted, mostly.
func spoilt(g *rand.Rand, f api.Frog, box int, q []api.Int) (api.Frog, int, []api.Int) {
	f.Mass, q = slices.Clone(f.Mass), slices.Clone(q)
	switch k := g.IntN(9); {
	case k == 0:
		f.Grid = oneOf(g, farIntegers()...)
	case k == 1:
		f.Level = oneOf(g, farIntegers()...)
	case k == 2:
		f.Count = oneOf(g, append(farIntegers(), 0, mostCount+1)...)
	case k == 3:
		f.Step = oneOf(g, noNumbers()...)
	case k == 4:
		box = oneOf(g, append(farIntegers(), 0, mostBox+1)...)
	case k == 5 && len(f.Mass) > 0:
		f.Mass[g.IntN(len(f.Mass))] = oneOf(g, noNumbers()...)
	case k < 8 && len(q) > 0:
		edge := edgeOf(f.Grid, box)
		q[g.IntN(len(q))] = intOf(oneOf(g, plus(edge, 1), minus(plus(edge, 1)), edge, new(big.Int).Add(edge, anyBits(g, 2*fineBits))))
	default:
		q = anyInts(g, g.IntN(4), 4)
	}
	return f, box, q
}

// P27.2, P27.4: many transitions of one source, each from where the last one led; none of them leaves the box.
func TestOneAfterTheOther(t *testing.T) {
	g := rand.New(rand.NewPCG(27, 4))
	moves, verdicts := 0, map[api.Verdict]int{}
	for range 100 {
		x, f, box, q := anyTransition(g)
		s := bitsOf(g, 4000)
		for range 60 {
			other := s.Copy()
			got := hopped(t, s, x, f, box, q, reached{})
			if got.e != api.OK {
				break
			}
			next, v, _ := hop.Hop(other, x, f, box, q)
			if !isInside(next, f.Grid, box) {
				t.Fatalf("%s, %s, box %d: from %s to %s", shownTape(x), shownWay(f), box, shownInts(q), shownInts(next))
			}
			if v != api.VdTaken && shownInts(next) != shownInts(q) {
				t.Fatalf("verdict %d, but from %s to %s", v, shownInts(q), shownInts(next))
			}
			verdicts[v]++
			if shownInts(next) != shownInts(q) {
				moves++
			}
			q = next
		}
	}
	if moves < 500 || verdicts[api.VdTaken] < 500 || verdicts[api.VdLeft] < 200 || verdicts[api.VdOutside] < 200 {
		t.Error(moves, verdicts)
	}
}

// P27.4: where the box is next to the place, all of these stay in it, and come to each of its places.
func TestStays(t *testing.T) {
	g := rand.New(rand.NewPCG(27, 5))
	hill := tapeOf(1, par(0), two(api.NdMul, 0, 0), number(-1, 4), two(api.NdMul, 1, 2))
	for _, x := range []api.Tape{flat(1), plain(), hill} {
		for _, grid := range []int{0, 2} {
			f := light(1, grid, 3)
			f.Mass[0] = frac(1, 1)
			f.Step = frac(1, 2)
			s, q, counts := bitsOf(g, 60000), ints(0), map[string]int{}
			for {
				next, _, e := hop.Hop(s, x, f, 2, q)
				if e == api.ErrDry {
					break
				}
				if e != api.OK || !isInside(next, grid, 2) {
					t.Fatalf("from %s to %s, %d", shownInts(q), shownInts(next), e)
				}
				q = next
				counts[shownInts(q)]++
			}
			if len(counts) != 4<<grid+1 {
				t.Errorf("%s: %v", shownTape(x), counts)
			}
		}
	}
}
