package bind_test

import (
	"math/big"
	"math/rand/v2"
	"slices"
	"testing"

	"stepstone/api"
	"stepstone/bind"
	"stepstone/kind"
)

// follows checks P16.4 of what a program is bound to: by Come, with the values before.
func follows(t *testing.T, p api.Prog, l []api.Value) {
	t.Helper()
	decls := p.Blocks[api.BkData].Decls
	if len(l) != len(decls) {
		t.Fatalf("%s has %d values", shownTree(p), len(l))
	}
	for i, d := range decls {
		v, before := l[i], l[:i]
		if v.Name != d.Name || v.Type != d.Type || !isValid(v) {
			t.Errorf("%s: %s is not valid", shownTree(p), cut(told(v)))
		}
		for _, e := range d.Size {
			if n, f := bind.Come(e, before); f.E != api.OK || n.Type != api.TyInt || n.Ints[0] != int64(len(v.Ints)+len(v.Nums)) {
				t.Errorf("%s: %s does not have the size %s, %s", shownTree(p), cut(told(v)), told(n), shownFault(f))
			}
		}
		for _, e := range d.Lower {
			within(t, e, before, v, -1)
		}
		for _, e := range d.Upper {
			within(t, e, before, v, 1)
		}
	}
	if _, f := bind.Come(num("1"), l); f.E != api.OK {
		t.Errorf("%s: %s", shownTree(p), shownFault(f))
	}
}

// within checks that nothing of a value is on one side of a bound.
func within(t *testing.T, bound api.Expr, before []api.Value, v api.Value, side int) {
	t.Helper()
	b, f := bind.Come(bound, before)
	if f.E != api.OK || isRow(b.Type) {
		t.Fatalf("the bound %s is %s, %s", shownExpr(bound), cut(told(b)), shownFault(f))
	}
	numbers := func(v api.Value) []*big.Rat { return modelOf([]api.Value{v}).nums[0] }
	for _, x := range numbers(v) {
		if x.Cmp(numbers(b)[0]) == side {
			t.Errorf("%s is beyond its bound %s", cut(told(v)), cut(told(b)))
		}
	}
}

// occurring are the names that an expression has.
func occurring(e api.Expr, l map[string]int) map[string]int {
	if e.Op == api.ExName || e.Op == api.ExIndex {
		l[e.Name]++
	}
	for _, k := range e.Kids {
		occurring(k, l)
	}
	return l
}

// P16.1, P16.5: random expressions of random values: held against the model; the type against layer 15; values that do not occur, or are hidden by others, changed.
func TestAnyExpr(t *testing.T) {
	g := rand.New(rand.NewPCG(16, 1))
	met := map[api.Errno]int{}
	for range 5000 {
		m := newMaker(g)
		e := placed(m.any())
		v, f := checkExpr(t, e, m.values)
		met[f.E]++
		if f.E == api.OK {
			if k, fault := kind.Of(e, modelOf(m.values).kinds); k.Type != v.Type || fault.E != api.OK || !isValid(v) {
				t.Errorf("%s is %s, and has the type %d", shownExpr(e), cut(told(v)), k.Type)
			}
		}
		other := elsewhere(m, occurring(e, map[string]int{}))
		if again, fault := checkExpr(t, e, other); told(again) != told(v) || fault != f {
			t.Errorf("%s is %s, %s, but %s, %s with other values that don't occur: %s, then %s", shownExpr(e), cut(told(v)), shownFault(f), cut(told(again)), shownFault(fault), cut(toldAll(m.values)), cut(toldAll(other)))
		}
		if t.Failed() {
			t.FailNow()
		}
	}
	if met[api.OK] < 2500 || met[api.ErrRange] < 500 || met[api.ErrType] < 40 {
		t.Errorf("met: %v", met)
	}
}

// elsewhere are a maker's values, but other ones where the names do not occur, or the value is not the last one.
func elsewhere(m *maker, names map[string]int) []api.Value {
	var out []api.Value
	last := m.last()
	for _, v := range m.values {
		isLast := slices.ContainsFunc(last, func(w api.Value) bool { return told(w) == told(v) })
		switch {
		case names[v.Name] > 0 && isLast:
			out = append(out, v)
		case m.g.IntN(4) > 0:
			out = append(out, m.value(v.Name, oneOf(m.g, types()...), m.g.IntN(6)))
		}
	}
	return append(out, m.value("other", oneOf(m.g, types()...), 3))
}

// P16.2, P16.4: random programs with data that fit, or nearly.
func TestAnyProgram(t *testing.T) {
	g := rand.New(rand.NewPCG(16, 2))
	met := map[api.Errno]int{}
	most := 0
	for range 2500 {
		p, data := newMaker(g).prog()
		l, f := check(t, p, data)
		met[f.E]++
		if most = max(most, len(l)); t.Failed() {
			t.FailNow()
		}
	}
	if met[api.OK] < 1500 || met[api.ErrRange] < 20 || met[api.ErrData]+met[api.ErrBound] < 20 || most < 7 {
		t.Errorf("met: %v, %d values", met, most)
	}
}

// P16.1: each single change in expressions, and in the values that they are of.
func TestChangedExpr(t *testing.T) {
	met := map[api.Errno]int{}
	for i, s := range []string{"dot(v, y0) + n / size(k)", "v[k[1] - n] * -y0", "sum(k) * n - k[n]", "square(v - y0 / n)", "1.5 * sum(y) - 2"} {
		e, values := placed(parsedExpr(t, s)), given("n int 1; v vector 1 1/2; k ints 2 -3; y reals 5/3; y0 vector -1 0")
		if _, f := checkExpr(t, e, values); f.E != api.OK {
			t.Fatalf("%s: %s", s, shownFault(f))
		}
		eachChange(&e, func() {
			_, f := checkExpr(t, e, values)
			met[f.E]++
		})
		eachChange(&values, func() {
			_, f := checkExpr(t, e, values)
			met[f.E]++
		})
		if got, f := bind.Come(e, values); f.E != api.OK || t.Failed() {
			t.Fatalf("%d: %s, then %s, %s", i, s, told(got), shownFault(f))
		}
	}
	for e, least := range map[api.Errno]int{api.OK: 500, api.ErrTree: 500, api.ErrName: 100, api.ErrType: 200, api.ErrRange: 100, api.ErrData: 200} {
		if met[e] < least {
			t.Errorf("error %d is met %d times", e, met[e])
		}
	}
}

// P16.2, P16.4: each single change in a program, and in its data.
func TestChangedProgram(t *testing.T) {
	met := map[api.Errno]int{}
	p, data := parsed(t, ordinaryProgram()), items(t, ordinaryData())
	if _, f := check(t, p, data); f.E != api.OK {
		t.Fatal(shownFault(f))
	}
	see := func() {
		_, f := check(t, p, data)
		met[f.E]++
	}
	eachChange(&p.Blocks[api.BkData], see)
	eachChange(&data, see)
	if _, f := check(t, p, data); f.E != api.OK {
		t.Errorf("at the end: %s", shownFault(f))
	}
	for e, least := range map[api.Errno]int{api.OK: 500, api.ErrTree: 500, api.ErrName: 100, api.ErrDouble: 50, api.ErrType: 100, api.ErrRange: 20, api.ErrData: 500, api.ErrBound: 100} {
		if met[e] < least {
			t.Errorf("error %d is met %d times", e, met[e])
		}
	}
}

// P16.2: random programs with one random change, in them or in their data.
func TestAnyChange(t *testing.T) {
	g := rand.New(rand.NewPCG(16, 4))
	for range 100 {
		p, data := newMaker(g).prog()
		n, chosen := 0, g.IntN(20)
		see := func() {
			if n++; n%20 == chosen {
				check(t, p, data)
			}
		}
		eachChange(&data, see)
		eachChange(&p.Blocks[api.BkData], see)
		if t.Failed() {
			t.FailNow()
		}
	}
}
