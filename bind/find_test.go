package bind_test

import (
	"slices"
	"testing"

	"stepstone/api"
	"stepstone/bind"
)

// P16.3: the last value with a name.
func TestFind(t *testing.T) {
	l := append(given("n int 3; v vector 1 2; n real 1/2; k ints 1 2; n ints 4; y reals; v vector 5"), api.Value{Type: api.TyInt, Ints: []int64{9}}, api.Value{Name: "odd", Type: 77})
	for s, want := range map[string]string{"n": "n ints 4", "v": "v vector 5", "k": "k ints 1 2", "y": "y reals", "": "int 9", "odd": "odd type77"} {
		if v, is := bind.Find(l, s); !is || told(v) != want {
			t.Errorf("Find of %s: %s, %t, want %s", s, told(v), is, want)
		}
	}
	for _, s := range []string{"N", "nn", "n ", " n", "x", "k1", "int", "0"} {
		if v, is := bind.Find(l, s); is || !isNone(v) {
			t.Errorf("Find of %s: %s, %t", s, told(v), is)
		}
	}
	for _, l := range [][]api.Value{nil, {}, make([]api.Value, 0, 3)} {
		for _, s := range []string{"n", ""} {
			if v, is := bind.Find(l, s); is || !isNone(v) {
				t.Errorf("Find of nothing: %s, %t", told(v), is)
			}
		}
	}
	for n := range len(l) {
		for _, s := range []string{"n", "v", "k", "y", "", "odd"} {
			i := -1
			for j, v := range l[:n] {
				if v.Name == s {
					i = j
				}
			}
			v, is := bind.Find(l[:n], s)
			if is != (i >= 0) || is && !bind.Same(v, l[i]) || !is && !isNone(v) {
				t.Errorf("Find of %s among %d: %s, %t", s, n, told(v), is)
			}
		}
	}
	if v, is := bind.Find(append(l, api.Value{}), ""); !is || !isNone(v) {
		t.Errorf("the zero value is not found: %s, %t", told(v), is)
	}
}

// P16.3: what is found is the value, also where it is not valid.
func TestFindAny(t *testing.T) {
	for _, v := range wrongValues("x") {
		if got, is := bind.Find(slices.Concat(given("x int 1"), []api.Value{v}, given("y int 2")), "x"); !is || !bind.Same(got, v) {
			t.Errorf("%s is found as %s, %t", cut(told(v)), cut(told(got)), is)
		}
	}
}

// P16.3: values that are equal in everything, in lists of their own, and each part changed alone.
func TestSame(t *testing.T) {
	all := slices.Concat(some(), wrongValues("x"), wrongValues("y")[:20], []api.Value{{}, {Name: "x"}, scalar("x", ofBits(300, 400)), scalar("x", ofBits(301, 400)), scalar("x", ofBits(300, 401))})
	for _, ty := range types() {
		all = append(all, samples(ty)...)
	}
	for i, a := range all {
		for _, b := range all[i:min(len(all), i+40)] {
			if got, want := bind.Same(a, copyOf(b)), isSame(a, b); got != want || bind.Same(b, a) != want {
				t.Errorf("%s and %s: %t", cut(told(a)), cut(told(b)), got)
			}
		}
		if !bind.Same(a, a) || !bind.Same(a, copyOf(a)) || !bind.Same(a, roomyValues([]api.Value{a})[0]) {
			t.Errorf("%s is not the same as itself", cut(told(a)))
		}
	}
	a := api.Value{Name: "x", Type: api.TyVec, Ints: []int64{1, 2}, Nums: []api.Frac{ratio(1, 2), fracOf(pow2(70), pow2(130))}}
	met := 0
	b := copyOf(a)
	eachChange(&b, func() {
		met++
		if bind.Same(a, b) || bind.Same(b, a) {
			t.Errorf("%s is the same as %+v", told(a), b)
		}
	})
	if !bind.Same(a, b) || met < 100 {
		t.Errorf("%d changes, then %+v", met, b)
	}
}

// P16.3: nil lists are the same as empty ones, at all depths.
func TestSameNil(t *testing.T) {
	for _, c := range [][2]api.Value{
		{{}, {Ints: []int64{}}}, {{}, {Nums: []api.Frac{}}}, {{}, {Ints: make([]int64, 0, 5), Nums: make([]api.Frac, 0, 5)}}, {{Ints: []int64{}}, {Nums: []api.Frac{}}},
		{{Nums: []api.Frac{{}}}, {Nums: []api.Frac{{N: api.Int{M: api.Nat{}}}}}}, {{Nums: []api.Frac{{}}}, {Nums: []api.Frac{{D: api.Nat{}}}}}, {{Nums: []api.Frac{{D: api.Nat{1}}}}, {Nums: []api.Frac{{N: api.Int{M: make(api.Nat, 0, 2)}, D: api.Nat{1}}}}},
	} {
		if !bind.Same(c[0], c[1]) || !bind.Same(c[1], c[0]) {
			t.Errorf("%+v and %+v are not the same", c[0], c[1])
		}
	}
	for _, c := range [][2]api.Value{
		{{}, {Ints: []int64{0}}}, {{}, {Nums: []api.Frac{{}}}}, {{Nums: []api.Frac{{}}}, {Nums: []api.Frac{{D: api.Nat{0}}}}}, {{Nums: []api.Frac{{}}}, {Nums: []api.Frac{{N: api.Int{M: api.Nat{0}}}}}}, {{Ints: []int64{0}}, {Nums: []api.Frac{{}}}},
	} {
		if bind.Same(c[0], c[1]) || bind.Same(c[1], c[0]) {
			t.Errorf("%+v and %+v are the same", c[0], c[1])
		}
	}
}
