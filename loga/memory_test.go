package loga_test

import (
	"slices"
	"testing"

	"stepstone/api"
	"stepstone/loga"
)

// memoryCalls are all calls that return lists.
func memoryCalls() map[string]func(a api.Ivl) []api.Nat {
	out := map[string]func(a api.Ivl) []api.Nat{}
	for name, p := range map[string]int{"to 1 bit": 1, "to 70 bits": 70, "to all bits": fine, "to no bits": 0} {
		out["Log "+name] = func(a api.Ivl) []api.Nat { x, _ := loga.Log(a.Lo, p, false); return []api.Nat{x.M.M} }
		out["Log up "+name] = func(a api.Ivl) []api.Nat { x, _ := loga.Log(a.Hi, p, true); return []api.Nat{x.M.M} }
		out["Two "+name] = func(a api.Ivl) []api.Nat { x := loga.Two(p); return []api.Nat{x.Lo.M.M, x.Hi.M.M} }
		out["Of "+name] = func(a api.Ivl) []api.Nat { x := loga.Of(a, p); return []api.Nat{x.Lo.M.M, x.Hi.M.M} }
	}
	return out
}

// laid is the same interval with the limbs of both bounds in one stretch of memory, each list with something behind it.
func laid(a api.Ivl) (api.Ivl, api.Nat) {
	behind := api.Nat{11, 12, 13, 14, 15, 16, 17, 18}
	n, m := len(a.Lo.M.M), len(a.Hi.M.M)
	ground := slices.Concat(a.Lo.M.M, behind, a.Hi.M.M, behind)
	a.Lo.M.M = ground[:n]
	a.Hi.M.M = ground[n+len(behind):][:m]
	return a, ground
}

// R5: what is handed in stays, with what is behind it in its memory; what is returned is nobody else's memory, and its parts do not share theirs.
func TestMemory(t *testing.T) {
	l := append(within()[:16], unknown(), undef(), known("0 1"), known("-1 0"), known("-1 1p4001"), known("1p-4001 1"), some(belowOne(), aboveOne()), some(small(4, 0), small(16, 3)), some(padded(small(9, 0), 3), padded(small(1, 0), 2)), some(written(pow2(200), -200), written(negative(allOnes(4000)), -fine)))
	for name, call := range memoryCalls() {
		for _, a := range l {
			stays(t, name, call, a)
		}
	}
}

func stays(t *testing.T, name string, call func(a api.Ivl) []api.Nat, a api.Ivl) {
	t.Helper()
	arg, ground := laid(a)
	before := slices.Clone(ground)
	first := call(arg)
	var values []api.Nat
	for _, m := range first {
		values = append(values, slices.Clone(m))
	}
	// Each list is written over, with its spare room, one after the other: the others must not see it.
	for i, m := range first {
		for j, other := range first[i:] {
			if !slices.Equal(other, values[i+j]) {
				t.Errorf("%s of %s: parts of the result share their memory", name, shownIvl(a))
			}
		}
		room := m[:cap(m)]
		for k := range room {
			room[k] = 0xdead
		}
	}
	if !slices.Equal(ground, before) {
		t.Errorf("%s of %s: what was handed in, or what is behind it, was changed", name, shownIvl(a))
	}
	for i, m := range call(arg) {
		if !slices.Equal(m, values[i]) {
			t.Errorf("%s of %s: another answer the second time", name, shownIvl(a))
		}
	}
}
