package frog_test

import (
	"math/rand/v2"
	"reflect"
	"slices"
	"sync"
	"testing"

	"stepstone/api"
	"stepstone/frog"
)

// roomy is a list with more memory behind its end.
func roomy[T any](l []T, behind T) []T {
	room := append(slices.Clone(l), behind, behind)
	return room[:len(l)]
}

func roomyInts(l []api.Int) []api.Int {
	out := roomy(l, ints(77)[0])
	for i := range out[:cap(out)] {
		out[:cap(out)][i].M = roomy(out[:cap(out)][i].M, 9)
	}
	return out
}

func roomyFrac(a api.Frac) api.Frac {
	return api.Frac{N: api.Int{Neg: a.N.Neg, M: roomy(a.N.M, 9)}, D: roomy(a.D, 9)}
}

// given is all that calls are handed in.
type given struct {
	t    api.Tape
	f    api.Frog
	q, p []api.Int
}

func anyGiven(g *rand.Rand) given {
	x := anyTape(g, 10)
	f := anyWay(g, x.Pars)
	x.Nodes, x.Tells = roomy(x.Nodes, number(5, 3)), roomy(x.Tells, api.Tell{Name: "no", At: 1})
	for i, n := range x.Nodes {
		if n.Op == api.NdNum {
			x.Nodes[i].C = roomyFrac(n.C)
		}
	}
	f.Step, f.Mass = roomyFrac(f.Step), roomy(f.Mass, frac(9, 7))
	for i := range f.Mass {
		f.Mass[i] = roomyFrac(f.Mass[i])
	}
	return given{x, f, roomyInts(anyInts(g, x.Pars, f.Grid)), roomyInts(anyInts(g, x.Pars, f.Grid))}
}

// deep copies a value and all that its lists have room for.
func deep(v reflect.Value) any {
	switch v.Kind() {
	case reflect.Slice:
		var out []any
		v = v.Slice(0, v.Cap())
		for i := range v.Len() {
			out = append(out, deep(v.Index(i)))
		}
		return out
	case reflect.Struct:
		var out []any
		for i := range v.NumField() {
			out = append(out, deep(v.Field(i)))
		}
		return out
	case reflect.Int:
		return v.Int()
	case reflect.Uint8, reflect.Uint64:
		return v.Uint()
	case reflect.Bool:
		return v.Bool()
	default:
		return v.String()
	}
}

// spoil writes all over a list of numbers, and what it has room for.
func spoil(l []api.Nat) {
	for _, m := range l {
		for i := range m[:cap(m)] {
			m[:cap(m)][i] = 93
		}
	}
}

func limbs(l []api.Int) []api.Nat {
	var out []api.Nat
	for _, a := range l[:cap(l)] {
		out = append(out, a.M)
	}
	for i := range l[:cap(l)] {
		l[:cap(l)][i].Neg = true
	}
	return out
}

// called is what all four calls return, written out; and then spoilt.
func called(x given) any {
	e := frog.Check(x.t, x.f)
	point := frog.Point(x.q, x.f.Grid)
	numbers, e2 := frog.Numbers(x.t, x.f, x.q)
	q, p, e3 := frog.Move(x.t, x.f, x.q, x.p)
	told := []any{int(e), int(e2), int(e3)}
	for _, l := range []any{point, numbers, q, p} {
		// What there's room for behind a list's end is not told.
		told = append(told, deep(clipped(reflect.ValueOf(l))))
	}
	for _, a := range point[:cap(point)] {
		spoil([]api.Nat{a.M.M})
	}
	for _, a := range numbers[:cap(numbers)] {
		spoil([]api.Nat{a.N.M, a.D})
	}
	spoil(append(limbs(q), limbs(p)...))
	return told
}

// clipped is a value whose lists have no more room than they need.
func clipped(v reflect.Value) reflect.Value {
	out := reflect.New(v.Type()).Elem()
	switch v.Kind() {
	case reflect.Slice:
		out.Set(reflect.MakeSlice(v.Type(), v.Len(), v.Len()))
		for i := range v.Len() {
			out.Index(i).Set(clipped(v.Index(i)))
		}
	case reflect.Struct:
		for i := range v.NumField() {
			out.Field(i).Set(clipped(v.Field(i)))
		}
	default:
		return v
	}
	return out
}

// R5, R4: what is handed in is not changed, nor what is behind it; what is told is no part of it, nor of what is told later.
func TestHandedIn(t *testing.T) {
	g := rand.New(rand.NewPCG(25, 11))
	for range 2500 {
		x := anyGiven(g)
		before := deep(reflect.ValueOf(x))
		first := called(x)
		if !reflect.DeepEqual(deep(reflect.ValueOf(x)), before) {
			t.Fatalf("%s, %s: what was handed in is changed", shownTape(x.t), shownWay(x.f))
		}
		if again := called(x); !reflect.DeepEqual(first, again) {
			t.Fatalf("%s, %s: %v, then %v", shownTape(x.t), shownWay(x.f), first, again)
		}
	}
}

// R5: no two lists or numbers of one answer share memory.
func TestToldApart(t *testing.T) {
	f := way(3)
	f.Count = 0
	q := ints(1<<60, 1<<60, 1<<60)
	gotQ, gotP, _ := frog.Move(flat(3), f, q, q)
	points := frog.Point(append(q, q...), 0)
	f.Count = 1
	numbers, _ := frog.Numbers(tapeOf(3, par(0), par(1), par(2), two(api.NdAdd, 0, 1), two(api.NdAdd, 3, 2)), f, q)
	zeros, _ := frog.Numbers(flat(3), f, q)
	none, _ := frog.Numbers(tapeOf(3, number(-1, 1), one(api.NdLog, 0)), f, q)
	all := append(limbs(gotQ), limbs(gotP)...)
	for _, a := range points {
		all = append(all, a.M.M)
	}
	for _, a := range slices.Concat(numbers, zeros, none) {
		all = append(all, a.N.M, a.D)
	}
	for i, m := range all {
		for j := range m[:cap(m)] {
			m[:cap(m)][j] = uint64(1000 + i)
		}
	}
	for i, m := range all {
		for _, limb := range m[:cap(m)] {
			if limb != uint64(1000+i) {
				t.Errorf("number %d of the answers is shared", i)
			}
		}
	}
}

// R4: calls side by side, by what they share, tell what they tell alone.
func TestSideBySide(t *testing.T) {
	g := rand.New(rand.NewPCG(25, 12))
	var all []given
	var want []any
	for range 60 {
		x := anyGiven(g)
		all, want = append(all, x), append(want, called(x))
	}
	var wait sync.WaitGroup
	for range 8 {
		wait.Go(func() {
			for i, x := range all {
				if got := called(x); !reflect.DeepEqual(got, want[i]) {
					t.Errorf("%v, want %v", got, want[i])
				}
			}
		})
	}
	wait.Wait()
}
