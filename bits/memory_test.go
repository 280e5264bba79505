package bits_test

import (
	"math/big"
	"math/rand/v2"
	"slices"
	"sync"
	"testing"

	"stepstone/api"
	"stepstone/bits"
)

// roomy is a number with more memory behind its limbs.
func roomy(m api.Nat) api.Nat {
	room := append(slices.Clone(m), 7, 8, 9)
	return room[:len(m)]
}

// R5: what is handed in is not changed, nor what is behind it, and what is told is not a part of it.
func TestHandedIn(t *testing.T) {
	g := rand.New(rand.NewPCG(23, 12))
	for range 3000 {
		s := bits.New(anyScript(g, 30))
		m, a := roomy(anyNat(g)), anyFrac(g)
		a.N.M, a.D = roomy(a.N.M), roomy(a.D)
		lists := []api.Nat{m, a.N.M, a.D}
		var before []api.Nat
		for _, l := range lists {
			before = append(before, slices.Clone(l[:len(l)+3]))
		}
		neg := a.N.Neg
		k, _ := s.Below(m)
		s.Coin(a)
		s.Decay(a)
		for i := range k[:cap(k)] {
			k[:cap(k)][i] = 93
		}
		for i, l := range lists {
			if !slices.Equal(l[:len(l)+3], before[i]) || a.N.Neg != neg {
				t.Fatalf("%v, was %v", l[:len(l)+3], before[i])
			}
		}
	}
}

// R5: what is told is new memory, with what is spare of it; what is done to it changes neither the source nor what it tells later.
func TestToldApart(t *testing.T) {
	text := anyBytes(rand.New(rand.NewPCG(23, 15)), 3000)
	s, other := bits.New(text), bits.New(text)
	k := natOf(near(130, 5))
	var told []api.Nat
	for range 8 {
		m, e := s.Number(130)
		want, _ := other.Number(130)
		l, f := s.Below(k)
		least, _ := other.Below(k)
		if e != api.OK || f != api.OK || !slices.Equal(m, want) || !slices.Equal(l, least) {
			t.Fatal(m, want, l, least)
		}
		told = append(told, m, l)
		for _, l := range told {
			for i := range l[:cap(l)] {
				l[:cap(l)][i] = 93
			}
		}
	}
}

// R3: a call that is refused has changed nothing: the same is told by a source of which it was never asked.
func TestRefused(t *testing.T) {
	g := rand.New(rand.NewPCG(23, 13))
	top := near(mostBits, -1)
	long := fracOf(ratio(new(big.Int).Sub(top, big.NewInt(1)), top))
	for range 300 {
		text := anyScript(g, 30)
		s, other := bits.New(text), bits.New(text)
		for range 10 {
			n := g.IntN(12)
			m, e := s.Number(n)
			want, f := other.Number(n)
			if !slices.Equal(m, want) || e != f || s.Read() != other.Read() || s.Dry() != other.Dry() {
				t.Fatalf("%q: %v, %d, want %v, %d", text, m, e, want, f)
			}
			s.Number(-1 - n)
			s.Below(nil)
			s.Coin(api.Frac{})
			s.Decay(api.Frac{D: api.Nat{0}})
			c := s.Copy()
			if _, e := c.Decay(long); e == api.ErrArg {
				s.Decay(long)
			}
		}
	}
}

// R4: sources side by side do not know of each other, nor do numbers that are shared.
func TestSideBySide(t *testing.T) {
	g := rand.New(rand.NewPCG(23, 14))
	text := anyBytes(g, 400)
	k, p, x := natOf(near(70, 3)), fracOf(rat(3, 7)), fracOf(rat(11, 5))
	first := rowOf(bits.New(text), k, p, x)
	begin := bits.New(text)
	var wait sync.WaitGroup
	for range 8 {
		s := begin.Copy()
		wait.Go(func() {
			for range 20 {
				if got := rowOf(s.Copy(), k, p, x); !slices.Equal(got, first) {
					t.Errorf("%v, want %v", got, first)
				}
			}
		})
	}
	wait.Wait()
	if begin.Read() != 0 {
		t.Error("the source has read what its copies did")
	}
}

// rowOf is what calls tell, until the source is dry.
func rowOf(s *bits.Source, k api.Nat, p, x api.Frac) []int {
	var out []int
	for !s.Dry() {
		s.Below(k)
		if b, _ := s.Coin(p); b {
			out = append(out, 1)
		}
		if b, _ := s.Decay(x); b {
			out = append(out, 2)
		}
		out = append(out, s.Read())
	}
	return out
}
