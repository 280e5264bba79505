package gauss_test

import (
	"math/rand/v2"
	"slices"
	"sync"
	"testing"

	"stepstone/api"
	"stepstone/bits"
	"stepstone/gauss"
)

// roomy is a number with more memory behind its limbs.
func roomy(m api.Nat) api.Nat {
	room := append(slices.Clone(m), 7, 8, 9)
	return room[:len(m)]
}

// R5: what is handed in is not changed, nor what is behind it, and what is told is not a part of it.
func TestHandedIn(t *testing.T) {
	g := rand.New(rand.NewPCG(24, 8))
	for range 3000 {
		s := bits.New(anyScript(g, 40))
		m, w := roomy(anyNat(g)), anyFrac(g)
		w.N.M, w.D = roomy(w.N.M), roomy(w.D)
		lists := []api.Nat{m, w.N.M, w.D}
		var before []api.Nat
		for _, l := range lists {
			before = append(before, slices.Clone(l[:len(l)+3]))
		}
		neg := w.N.Neg
		x, _ := gauss.Slope(s, m)
		y, _ := gauss.Bell(s, w)
		for _, told := range []api.Nat{x.M, y.M} {
			for i := range told[:cap(told)] {
				told[:cap(told)][i] = 93
			}
		}
		for i, l := range lists {
			if !slices.Equal(l[:len(l)+3], before[i]) || w.N.Neg != neg {
				t.Fatalf("%v, was %v", l[:len(l)+3], before[i])
			}
		}
	}
}

// R5: what is done to what was told changes neither the source nor what is told later.
func TestToldApart(t *testing.T) {
	text := anyBytes(rand.New(rand.NewPCG(24, 9)), 3000)
	s, other := bits.New(text), bits.New(text)
	m, w := natOf(near(130, 5)), fracOf(whole(near(150, 7)))
	var all []api.Nat
	for range 8 {
		for _, draw := range []drawer{
			func(s *bits.Source) (api.Int, api.Errno) { return gauss.Slope(s, m) },
			func(s *bits.Source) (api.Int, api.Errno) { return gauss.Bell(s, w) },
		} {
			y, e := draw(s)
			want, f := draw(other)
			if e != api.OK || f != api.OK || y.Neg != want.Neg || !slices.Equal(y.M, want.M) {
				t.Fatal(y, e, want, f)
			}
			all = append(all, y.M)
			for _, l := range all {
				for i := range l[:cap(l)] {
					l[:cap(l)][i] = 93
				}
			}
		}
	}
}

// R3: a call that is refused has changed nothing: the same is told by a source of which it was never asked.
func TestRefusedBetween(t *testing.T) {
	g := rand.New(rand.NewPCG(24, 10))
	long := api.Frac{N: api.Int{M: api.Nat{1}}, D: natOf(near(mostBits, -1))}
	for range 100 {
		text := anyScript(g, 60)
		s, other := bits.New(text), bits.New(text)
		for range 6 {
			w := fracOf(rat(1+g.Int64N(20), 1+g.Int64N(9)))
			y, e := gauss.Bell(s, w)
			want, f := gauss.Bell(other, w)
			if y.Neg != want.Neg || !slices.Equal(y.M, want.M) || e != f || s.Read() != other.Read() || s.Dry() != other.Dry() {
				t.Fatalf("%q: %v, %d, want %v, %d", text, y, e, want, f)
			}
			gauss.Slope(s, nil)
			gauss.Bell(s, api.Frac{})
			c := s.Copy()
			if _, e := gauss.Bell(c, long); e == api.ErrLong {
				gauss.Bell(s, long)
			}
		}
	}
}

// R4: sources side by side do not know of each other, nor do numbers that are shared.
func TestSideBySide(t *testing.T) {
	begin := bits.New(anyBytes(rand.New(rand.NewPCG(24, 11)), 300))
	m, w := natOf(near(70, 3)), fracOf(rat(30, 7))
	first := drawnOut(begin.Copy(), m, w)
	var wait sync.WaitGroup
	for range 8 {
		s := begin.Copy()
		wait.Go(func() {
			for range 10 {
				if got := drawnOut(s.Copy(), m, w); !slices.Equal(got, first) {
					t.Errorf("%v, want %v", got, first)
				}
			}
		})
	}
	wait.Wait()
	if begin.Read() != 0 {
		t.Error("the source has read what its copies did")
	}
}

// drawnOut is what is drawn until the source is dry.
func drawnOut(s *bits.Source, m api.Nat, w api.Frac) []uint64 {
	var out []uint64
	for !s.Dry() {
		x, _ := gauss.Slope(s, m)
		y, _ := gauss.Bell(s, w)
		out = append(append(append(out, x.M...), y.M...), uint64(s.Read()))
	}
	return out
}
