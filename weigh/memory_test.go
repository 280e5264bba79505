package weigh_test

import (
	"math/rand/v2"
	"reflect"
	"slices"
	"sync"
	"testing"

	"stepstone/api"
	"stepstone/bits"
	"stepstone/weigh"
)

// roomy is a list with more memory behind its end.
func roomy[T any](l []T, behind T) []T {
	room := append(slices.Clone(l), behind, behind)
	return room[:len(l)]
}

func roomyInts(l []api.Int) []api.Int {
	out := roomy(l, ints(77)[0])
	for i := range out[:cap(out)] {
		out[:cap(out)][i].M = roomy(out[:cap(out)][i].M, 9)
	}
	return out
}

func roomyFrac(a api.Frac) api.Frac {
	return api.Frac{N: api.Int{Neg: a.N.Neg, M: roomy(a.N.M, 9)}, D: roomy(a.D, 9)}
}

// given is all that calls are handed in.
type given struct {
	t      api.Tape
	f      api.Frog
	a, b   api.State
	level  int
	script string
}

func anyGiven(g *rand.Rand) given {
	x, f, a, b := steep(g)
	script := script(closeRow(g, x, f, a, b))
	if g.IntN(10) == 0 {
		f, a, b = spoilt(g, f, a, b)
	}
	x.Nodes, x.Tells = roomy(x.Nodes, number(5, 3)), roomy(x.Tells, api.Tell{Name: "no", At: 1})
	for i, n := range x.Nodes {
		if n.Op == api.NdNum {
			x.Nodes[i].C = roomyFrac(n.C)
		}
	}
	f.Step, f.Mass = roomyFrac(f.Step), roomy(f.Mass, frac(9, 7))
	for i := range f.Mass {
		f.Mass[i] = roomyFrac(f.Mass[i])
	}
	a, b = api.State{Q: roomyInts(a.Q), P: roomyInts(a.P)}, api.State{Q: roomyInts(b.Q), P: roomyInts(b.P)}
	return given{x, f, a, b, g.IntN(5) - 1, script}
}

// deep copies a value and all that its lists have room for.
func deep(v reflect.Value) any {
	switch v.Kind() {
	case reflect.Slice:
		var out []any
		v = v.Slice(0, v.Cap())
		for i := range v.Len() {
			out = append(out, deep(v.Index(i)))
		}
		return out
	case reflect.Struct:
		var out []any
		for i := range v.NumField() {
			out = append(out, deep(v.Field(i)))
		}
		return out
	case reflect.Int:
		return v.Int()
	case reflect.Uint8, reflect.Uint64:
		return v.Uint()
	case reflect.Bool:
		return v.Bool()
	default:
		return v.String()
	}
}

// spoil writes all over numbers, and what they have room for.
func spoil(l ...api.Nat) {
	for _, m := range l {
		for i := range m[:cap(m)] {
			m[:cap(m)][i] = 93
		}
	}
}

// called is what all calls return, written out; and then spoilt.
func called(x given) any {
	s := bits.New(x.script)
	w, e := weigh.Weight(x.f, x.a.P)
	known, e2 := weigh.Gain(x.t, x.f, x.a, x.b, x.level)
	v, e3 := weigh.Weigh(s, x.t, x.f, x.a, x.b)
	told := []any{
		int(e), int(e2), int(e3), int(v), s.Read(), s.Dry(), known.Kind, known.Lo.E, known.Hi.E, known.Lo.M.Neg, known.Hi.M.Neg, w.N.Neg,
		slices.Clone(w.N.M), slices.Clone(w.D), slices.Clone(known.Lo.M.M), slices.Clone(known.Hi.M.M),
	}
	spoil(w.N.M, w.D, known.Lo.M.M, known.Hi.M.M)
	return told
}

// R5, R4: what is handed in is not changed, nor what is behind it; what is told is no part of it, nor of what is told later.
func TestHandedIn(t *testing.T) {
	g := rand.New(rand.NewPCG(26, 8))
	for range 2500 {
		x := anyGiven(g)
		before := deep(reflect.ValueOf(x))
		first := called(x)
		if !reflect.DeepEqual(deep(reflect.ValueOf(x)), before) {
			t.Fatalf("%s, %s: what was handed in is changed", shownTape(x.t), shownWay(x.f))
		}
		if again := called(x); !reflect.DeepEqual(first, again) {
			t.Fatalf("%s, %s: %v, then %v", shownTape(x.t), shownWay(x.f), first, again)
		}
	}
}

// R5: no two lists of one answer share memory, also where its numbers are the same.
func TestToldApart(t *testing.T) {
	var all []api.Nat
	for _, p := range [][]api.Int{nil, ints(0), ints(1), ints(1 << 40), ints(1<<40, 1<<40)} {
		w, _ := weigh.Weight(way(len(p)), p)
		all = append(all, w.N.M, w.D)
	}
	for level := range 3 {
		for _, to := range []int64{0, 1, 1 << 40} {
			up, _ := weigh.Gain(plain(), way(1), at(0), at(to), level)
			down, _ := weigh.Gain(plain(), way(1), at(0), at(-to), level)
			push, _ := weigh.Gain(plain(), way(1), by(to), by(0), level)
			all = append(all, up.Lo.M.M, up.Hi.M.M, down.Lo.M.M, down.Hi.M.M, push.Lo.M.M, push.Hi.M.M)
		}
	}
	for i, m := range all {
		for j := range m[:cap(m)] {
			m[:cap(m)][j] = uint64(1000 + i)
		}
	}
	for i, m := range all {
		for _, limb := range m[:cap(m)] {
			if limb != uint64(1000+i) {
				t.Errorf("number %d of the answers is shared", i)
			}
		}
	}
}

// R4: calls side by side, by what they share, tell what they tell alone.
func TestSideBySide(t *testing.T) {
	g := rand.New(rand.NewPCG(26, 9))
	var all []given
	var want []any
	for range 60 {
		x := anyGiven(g)
		all, want = append(all, x), append(want, called(x))
	}
	var wait sync.WaitGroup
	for range 8 {
		wait.Go(func() {
			for i, x := range all {
				if got := called(x); !reflect.DeepEqual(got, want[i]) {
					t.Errorf("%v, want %v", got, want[i])
				}
			}
		})
	}
	wait.Wait()
}
