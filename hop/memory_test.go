package hop_test

import (
	"math/rand/v2"
	"reflect"
	"slices"
	"sync"
	"testing"

	"stepstone/api"
	"stepstone/bits"
	"stepstone/hop"
)

// roomy is a list with more memory behind its end.
func roomy[T any](l []T, behind T) []T {
	room := append(slices.Clone(l), behind, behind)
	return room[:len(l)]
}

func roomyInts(l []api.Int) []api.Int {
	out := roomy(l, ints(77)[0])
	for i := range out[:cap(out)] {
		out[:cap(out)][i].M = roomy(out[:cap(out)][i].M, 9)
	}
	return out
}

func roomyFrac(a api.Frac) api.Frac {
	return api.Frac{N: api.Int{Neg: a.N.Neg, M: roomy(a.N.M, 9)}, D: roomy(a.D, 9)}
}

// given is all that calls are handed in.
type given struct {
	t      api.Tape
	f      api.Frog
	box    int
	q      []api.Int
	script string
}

func anyGiven(g *rand.Rand) given {
	x, f, box, q := anyTransition(g)
	if g.IntN(10) == 0 {
		f, box, q = spoilt(g, f, box, q)
	}
	x.Nodes, x.Tells = roomy(x.Nodes, number(5, 3)), roomy(x.Tells, api.Tell{Name: "no", At: 1})
	for i, n := range x.Nodes {
		if n.Op == api.NdNum {
			x.Nodes[i].C = roomyFrac(n.C)
		}
	}
	f.Step, f.Mass = roomyFrac(f.Step), roomy(f.Mass, frac(9, 7))
	for i := range f.Mass {
		f.Mass[i] = roomyFrac(f.Mass[i])
	}
	return given{x, f, box, roomyInts(q), script(anyRow(g, g.IntN(400)))}
}

// deep copies a value and all that its lists have room for.
func deep(v reflect.Value) any {
	switch v.Kind() {
	case reflect.Slice:
		var out []any
		v = v.Slice(0, v.Cap())
		for i := range v.Len() {
			out = append(out, deep(v.Index(i)))
		}
		return out
	case reflect.Struct:
		var out []any
		for i := range v.NumField() {
			out = append(out, deep(v.Field(i)))
		}
		return out
	case reflect.Int:
		return v.Int()
	case reflect.Uint8, reflect.Uint64:
		return v.Uint()
	case reflect.Bool:
		return v.Bool()
	default:
		return v.String()
	}
}

// spoil writes all over a place, and over what it has room for.
func spoil(q []api.Int) {
	for i := range q[:cap(q)] {
		m := q[:cap(q)][i].M
		for j := range m[:cap(m)] {
			m[:cap(m)][j] = 93
		}
		q[:cap(q)][i].Neg = true
	}
}

// called is what both calls return, written out; and then spoilt.
func called(x given) any {
	s := bits.New(x.script)
	is := hop.Inside(x.q, x.f.Grid, x.box)
	place, v, e := hop.Hop(s, x.t, x.f, x.box, x.q)
	told := []any{is, shownInts(place), len(place), int(v), int(e), s.Read(), s.Dry()}
	spoil(place)
	return told
}

// R5, R4: what is handed in is not changed, nor what is behind it; what is told is no part of it, nor of what is told later.
func TestHandedIn(t *testing.T) {
	g := rand.New(rand.NewPCG(27, 10))
	for range 2500 {
		x := anyGiven(g)
		before := deep(reflect.ValueOf(x))
		first := called(x)
		if !reflect.DeepEqual(deep(reflect.ValueOf(x)), before) {
			t.Fatalf("%s, %s: what was handed in is changed", shownTape(x.t), shownWay(x.f))
		}
		if again := called(x); !reflect.DeepEqual(first, again) {
			t.Fatalf("%s, %s: %v, then %v", shownTape(x.t), shownWay(x.f), first, again)
		}
	}
}

// R5: no two integers of one place share memory, nor of two places, also where they are the previous ones.
func TestToldApart(t *testing.T) {
	var all []api.Nat
	shared := api.Nat{7, 0}
	q := []api.Int{{M: shared}, {M: shared}, {M: shared[:1:1]}}
	row := pushRow(1) + pushRow(0) + pushRow(0)
	for _, r := range []struct {
		box  int
		x    api.Tape
		more string
	}{{7, flat(3), ""}, {8, flat(3), ""}, {8, tapeOf(3, par(0), one(api.NdNeg, 0)), "1"}, {8, tapeOf(3, par(0), one(api.NdNeg, 0)), "00"}} {
		place, _, e := hop.Hop(bits.New(script(row+r.more)), r.x, light(3, 0, 1), r.box, q)
		if e != api.OK || len(place) != 3 {
			t.Fatal(place, e)
		}
		for _, n := range place {
			all = append(all, n.M)
		}
	}
	for i, m := range all {
		for j := range m[:cap(m)] {
			m[:cap(m)][j] = uint64(1000 + i)
		}
	}
	for i, m := range all {
		for _, limb := range m[:cap(m)] {
			if limb != uint64(1000+i) {
				t.Errorf("integer %d of the answers is shared", i)
			}
		}
	}
	if !slices.Equal(shared, api.Nat{7, 0}) {
		t.Error("an answer is what was handed in")
	}
}

// R4: calls side by side, by what they share, tell what they tell alone.
func TestSideBySide(t *testing.T) {
	g := rand.New(rand.NewPCG(27, 11))
	var all []given
	var want []any
	for range 60 {
		x := anyGiven(g)
		all, want = append(all, x), append(want, called(x))
	}
	var wait sync.WaitGroup
	for range 8 {
		wait.Go(func() {
			for i, x := range all {
				if got := called(x); !reflect.DeepEqual(got, want[i]) {
					t.Errorf("%v, want %v", got, want[i])
				}
			}
		})
	}
	wait.Wait()
}
