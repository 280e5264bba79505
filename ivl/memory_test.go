package ivl_test

import (
	"slices"
	"testing"

	"stepstone/api"
	"stepstone/ivl"
)

func limbsOf(a api.Ivl) []api.Nat { return []api.Nat{a.Lo.M.M, a.Hi.M.M} }

// memoryCalls are all calls that return lists.
func memoryCalls() map[string]func(a, b api.Ivl) []api.Nat {
	return map[string]func(a, b api.Ivl) []api.Nat{
		"Make": func(a, b api.Ivl) []api.Nat { x, _ := ivl.Make(a.Lo, a.Hi); return limbsOf(x) },
		"Make of one number": func(a, b api.Ivl) []api.Nat {
			x, _ := ivl.Make(a.Lo, a.Lo)
			return limbsOf(x)
		},
		"Of":   func(a, b api.Ivl) []api.Nat { return limbsOf(ivl.Of(-5)) },
		"Near": func(a, b api.Ivl) []api.Nat { return limbsOf(ivl.Near(api.Frac{N: a.Lo.M, D: api.Nat{1}}, 500)) },
		"Neg":  func(a, b api.Ivl) []api.Nat { return limbsOf(ivl.Neg(a)) },
		"Add":  func(a, b api.Ivl) []api.Nat { return limbsOf(ivl.Add(a, b, 500)) },
		"Sub":  func(a, b api.Ivl) []api.Nat { return limbsOf(ivl.Sub(a, b, 500)) },
		"Mul":  func(a, b api.Ivl) []api.Nat { return limbsOf(ivl.Mul(a, b, 500)) },
		"Mul to few bits": func(a, b api.Ivl) []api.Nat {
			return limbsOf(ivl.Mul(a, b, 2))
		},
		"Div":  func(a, b api.Ivl) []api.Nat { return limbsOf(ivl.Div(a, b, 70)) },
		"Sqr":  func(a, b api.Ivl) []api.Nat { return limbsOf(ivl.Sqr(a, 500)) },
		"Need": func(a, b api.Ivl) []api.Nat { return limbsOf(ivl.Need(a)) },
		"Both": func(a, b api.Ivl) []api.Nat { return limbsOf(ivl.Both(a, b)) },
		"Both of one": func(a, b api.Ivl) []api.Nat {
			return slices.Concat(limbsOf(ivl.Both(a, a)), limbsOf(ivl.Both(a, api.Ivl{})), limbsOf(ivl.Both(api.Ivl{}, a)))
		},
		"Grid": func(a, b api.Ivl) []api.Nat { m, _ := ivl.Grid(a, a.Lo.E); return []api.Nat{m.M} },
		"rest": func(a, b api.Ivl) []api.Nat {
			ivl.Check(a)
			ivl.Has(a, api.Frac{N: b.Lo.M, D: api.Nat{3}})
			ivl.Narrow(a, b.Hi)
			return nil
		},
	}
}

// laid are the same intervals with their limbs in one stretch of memory, each list with something behind it.
func laid(l ...api.Ivl) ([]api.Ivl, api.Nat) {
	behind := api.Nat{11, 12, 13, 14, 15, 16, 17, 18}
	var ground api.Nat
	for _, a := range l {
		ground = slices.Concat(ground, a.Lo.M.M, behind, a.Hi.M.M, behind)
	}
	out := slices.Clone(l)
	at := 0
	for i := range out {
		for _, m := range []*api.Nat{&out[i].Lo.M.M, &out[i].Hi.M.M} {
			n := len(*m)
			*m = ground[at:][:n]
			at += n + len(behind)
		}
	}
	return out, ground
}

func clones(l []api.Nat) []api.Nat {
	var out []api.Nat
	for _, m := range l {
		out = append(out, slices.Clone(m))
	}
	return out
}

// R5: what is handed in stays, with what is behind it in its memory; what is returned is nobody else's memory, and its parts do not share theirs.
func TestMemory(t *testing.T) {
	l := append(ordinary(), unknown(), undef(), notValid()[1], notValid()[24], some(small(2, 0), small(6, 0)))
	for name, call := range memoryCalls() {
		for i, a := range l {
			for _, b := range []api.Ivl{a, l[(7*i+3)%len(l)], l[(11*i+5)%len(l)], known("1 3"), known("-3 -1")} {
				stays(t, name, call, a, b)
			}
		}
	}
}

func stays(t *testing.T, name string, call func(a, b api.Ivl) []api.Nat, a, b api.Ivl) {
	t.Helper()
	args, ground := laid(a, b)
	before := slices.Clone(ground)
	first := call(args[0], args[1])
	values := clones(first)
	// Each list is written over, with its spare room, one after the other: the others must not see it.
	for i, m := range first {
		for j, other := range first[i:] {
			if !slices.Equal(other, values[i+j]) {
				t.Errorf("%s of %s: parts of the result share their memory", name, shown(a, b))
			}
		}
		room := m[:cap(m)]
		for k := range room {
			room[k] = 0xdead
		}
	}
	if !slices.Equal(ground, before) {
		t.Errorf("%s of %s: what was handed in, or what is behind it, was changed", name, shown(a, b))
	}
	for i, m := range call(args[0], args[1]) {
		if !slices.Equal(m, values[i]) {
			t.Errorf("%s of %s: another answer the second time", name, shown(a, b))
		}
	}
}
