package tape_test

import (
	"math"
	"math/big"
	"slices"
	"testing"

	"stepstone/api"
	"stepstone/tape"
)

// The chapter's examples.
func TestExamples(t *testing.T) {
	m := newMaker(t, 10)
	i, e := m.Par()
	is(t, "Par", i, e, 0, api.OK)
	i, e = m.Num(ratio(2, 1))
	is(t, "Num(2)", i, e, 1, api.OK)
	i, e = m.Two(api.NdMul, 0, 1)
	is(t, "Two(NdMul, 0, 1)", i, e, 2, api.OK)
	i, e = m.Two(api.NdMul, 0, 1)
	is(t, "Two(NdMul, 0, 1) again", i, e, 2, api.OK)
	i, e = m.One(api.NdExp, 9)
	is(t, "One(NdExp, 9)", i, e, 0, api.ErrArg)
	i, e = m.One(api.NdAdd, 0)
	is(t, "One(NdAdd, 0)", i, e, 0, api.ErrArg)
	x := tapeOf(1, par(0), num(2, 1), two(api.NdMul, 0, 1))
	isMade(t, m, x)

	m = newMaker(t, 1)
	i, e = m.Num(ratio(1, 1))
	is(t, "Num(1)", i, e, 0, api.OK)
	i, e = m.Num(ratio(2, 1))
	is(t, "Num(2)", i, e, 0, api.ErrBudget)
	i, e = m.Num(ratio(1, 1))
	is(t, "Num(1) again", i, e, 0, api.OK)
	isMade(t, m, tapeOf(0, num(1, 1)))
}

// P17.2: which budgets there are.
func TestNew(t *testing.T) {
	for _, n := range slices.Concat(farIndices(), []int{0, -1, -mostNodes, mostNodes + 1, 2 * mostNodes}) {
		if m, e := tape.New(n); m != nil || e != api.ErrArg {
			t.Errorf("New(%d) = %v, %d", n, m, e)
		}
	}
	for _, n := range []int{1, 2, 3, mostNodes - 1, mostNodes} {
		m := newMaker(t, n)
		if m.Len() != 0 {
			t.Errorf("of New(%d) Len = %d", n, m.Len())
		}
		for _, out := range []int{-1, 0, 1} {
			if x, e := m.Tape(out, nil); !isNoTape(x) || e != api.ErrArg {
				t.Errorf("of New(%d) Tape(%d) = %s, %d", n, out, told(x), e)
			}
		}
		i, e := m.One(api.NdExp, 0)
		is(t, "One without a step", i, e, 0, api.ErrArg)
		i, e = m.Two(api.NdAdd, 0, 0)
		is(t, "Two without a step", i, e, 0, api.ErrArg)
		i, e = m.Par()
		is(t, "Par", i, e, 0, api.OK)
		isMade(t, m, tapeOf(1, par(0)))
	}
	a, b := newMaker(t, 5), newMaker(t, 5)
	if _, e := a.Num(ratio(1, 1)); e != api.OK || a.Len() != 1 || b.Len() != 0 {
		t.Errorf("two makers have %d and %d steps", a.Len(), b.Len())
	}
	i, e := b.Num(ratio(2, 1))
	is(t, "Num of another maker", i, e, 0, api.OK)
	isMade(t, a, tapeOf(0, num(1, 1)))
	isMade(t, b, tapeOf(0, num(2, 1)))
}

// noMakers are not objects.
func noMakers() []*tape.Maker {
	refused, _ := tape.New(0)
	return []*tape.Maker{nil, {}, new(tape.Maker), refused}
}

// P17.2 to P17.4: what is no maker, also where other errors would apply.
func TestNoMaker(t *testing.T) {
	for k, m := range noMakers() {
		for range 2 {
			if m.Len() != 0 {
				t.Errorf("%d: Len = %d", k, m.Len())
			}
			for _, c := range []api.Frac{ratio(1, 1), ratio(2, 4), {}} {
				i, e := m.Num(c)
				is(t, "Num", i, e, 0, api.ErrNil)
			}
			i, e := m.Par()
			is(t, "Par", i, e, 0, api.ErrNil)
			for _, op := range slices.Concat(ops(), noOps()) {
				for _, a := range []int{0, 1, -1} {
					i, e = m.One(op, a)
					is(t, "One", i, e, 0, api.ErrNil)
					i, e = m.Two(op, a, 0)
					is(t, "Two", i, e, 0, api.ErrNil)
				}
			}
			for _, out := range []int{0, 1, -1} {
				for _, l := range [][]api.Tell{nil, {tell("x", 0)}, {tell("x", -1)}} {
					if x, e := m.Tape(out, l); !isNoTape(x) || e != api.ErrNil {
						t.Errorf("%d: Tape(%d, %s) = %s, %d", k, out, told(l), told(x), e)
					}
				}
			}
		}
	}
}

// R1, P17.5: a copy of what a maker's pointer points to does no harm: what either makes is valid, and stays where it was.
func TestCopiedMaker(t *testing.T) {
	m := newMaker(t, 20)
	m.Num(ratio(1, 1))
	copied := *m
	for k := range int64(6) {
		i, e := m.Num(ratio(k, 3))
		_, f := copied.Num(ratio(k, 5))
		_, g := copied.One(api.NdExp, copied.Len()-1)
		j, h := m.Num(ratio(k, 3))
		if e != api.OK || f != api.OK || g != api.OK || h != api.OK || i != j {
			t.Fatalf("%d, %d, %d, %d, at %d and %d", e, f, g, h, i, j)
		}
		for _, m := range []*tape.Maker{m, &copied} {
			if x, e := m.Tape(m.Len()-1, nil); e != api.OK || tape.Check(x) != api.OK {
				t.Errorf("%s, %d", told(x), e)
			}
		}
		if x, _ := m.Tape(i, nil); !isSame(x.Nodes[i], numOf(normal(big.NewRat(k, 3)))) {
			t.Errorf("%s has other than %d/3 at %d", told(x), k, i)
		}
	}
}

// P17.3: each number is there once, however it is written.
func TestNum(t *testing.T) {
	b := newBoth(t, 100)
	for _, c := range slices.Concat(normals(), otherwise(), noNumbers(), normals(), otherwise()) {
		b.num(c)
	}
	ways := func(n, d int64) []api.Frac {
		x := big.NewRat(n, d)
		plain := normal(x)
		wide := fracOf(new(big.Int).Mul(x.Num(), pow2(100)), new(big.Int).Mul(x.Denom(), pow2(100)))
		return []api.Frac{plain, wide, {N: api.Int{Neg: n < 0, M: append(plain.N.M, 0, 0)}, D: append(plain.D, 0)}}
	}
	for _, n := range []int64{0, 1, -1, 2, -2, 1 << 60} {
		for _, d := range []int64{1, 2, 3, 1 << 61} {
			var at []int
			for _, c := range ways(n, d) {
				at = append(at, b.num(c))
			}
			if at[0] != at[1] || at[0] != at[2] {
				t.Errorf("%d/%d is at %v", n, d, at)
			}
		}
	}
	b.tape(0)
}

// P17.3: numbers whose texts begin or end in the same way, or that are next to each other.
func TestNumOthers(t *testing.T) {
	b := newBoth(t, 200)
	seen := map[int]bool{}
	for _, n := range []int64{0, 1, -1, 11, -11, 12, 1122, 112, 111, math.MaxInt64, math.MinInt64} {
		for _, d := range []int64{1, 2, 12, 22, 122, 1 << 62} {
			seen[b.num(ratio(n, d))] = true
		}
	}
	long := allOnes(6400)
	for i := range int64(4) {
		n := new(big.Int).Sub(long, big.NewInt(i))
		seen[b.num(fracOf(n, big.NewInt(1)))] = true
		seen[b.num(fracOf(new(big.Int).Neg(n), big.NewInt(1)))] = true
		seen[b.num(fracOf(big.NewInt(1), n))] = true
	}
	if len(seen) != b.maker.Len() || len(seen) < 60 {
		t.Errorf("%d numbers, %d steps", len(seen), b.maker.Len())
	}
	b.tape(b.maker.Len() - 1)
}

// P17.3: each parameter is a further one, up to the most there may be.
func TestPar(t *testing.T) {
	b := newBoth(t, mostNodes)
	b.int(1)
	for i := range mostPars {
		if at := b.par(); at != i+1 {
			t.Errorf("the parameter %d is at %d", i, at)
		}
		if i%50 == 0 {
			b.tape(i)
		}
	}
	for range 3 {
		i, e := b.maker.Par()
		is(t, "a parameter more", i, e, 0, api.ErrBudget)
	}
	b.par()
	b.int(2)
	b.par()
	b.one(api.NdExp, mostPars)
	if x := b.tape(0); x.Pars != mostPars {
		t.Errorf("%d parameters", x.Pars)
	}
}

// P17.3: the budget used up by parameters, exactly when there are as many as there may be, and before.
func TestParBudget(t *testing.T) {
	for _, budget := range []int{1, 2, 5, mostPars - 1, mostPars, mostPars + 1} {
		b := newBoth(t, budget)
		for range mostPars + 3 {
			b.par()
		}
		want := min(budget, mostPars)
		if x := b.tape(want - 1); x.Pars != want || len(x.Nodes) != want {
			t.Errorf("with the budget %d: %d parameters, %d steps", budget, x.Pars, len(x.Nodes))
		}
		i, e := b.maker.Par()
		is(t, "a parameter more", i, e, 0, api.ErrBudget)
		b.int(7)
		b.one(api.NdNeed, 0)
		b.tape(b.maker.Len() - 1)
	}
	b := newBoth(t, 2)
	b.par()
	b.int(1)
	for range 3 {
		b.par()
	}
	if x := b.tape(1); x.Pars != 1 {
		t.Errorf("%d parameters, of which one was refused", x.Pars)
	}
}

// P17.3: which Ops One and Two have, and which steps.
func TestOneTwo(t *testing.T) {
	b := newBoth(t, 10000)
	b.int(1)
	b.par()
	b.int(3)
	for op := range 256 {
		for a := range 3 {
			b.one(uint8(op), a)
			for c := range 3 {
				b.two(uint8(op), a, c)
			}
		}
	}
	n := b.maker.Len()
	if want := 3 + 3*len(opsOfOne()) + 9*len(opsOfTwo()); n != want {
		t.Errorf("%d steps, want %d", n, want)
	}
	for _, i := range slices.Concat(farIndices(), []int{-1, -2, n, n + 1, 0, n - 1}) {
		for _, op := range slices.Concat(opsOfOne(), opsOfTwo(), noOps()) {
			b.one(op, i)
			for _, c := range []int{0, 5, i} {
				b.two(op, i, c)
				b.two(op, c, i)
			}
			n = b.maker.Len()
			b.one(op, n-1)
			b.two(op, n-1, 0)
			b.two(op, 0, n)
		}
	}
	b.tape(b.maker.Len() - 1)
}

// P17.3: steps that differ in one part only are different ones.
func TestDifferent(t *testing.T) {
	b := newBoth(t, 100)
	b.par()
	b.par()
	b.int(0)
	b.int(1)
	seen := map[int]bool{0: true, 1: true, 2: true, 3: true}
	for _, op := range opsOfOne() {
		for a := range 4 {
			seen[b.one(op, a)] = true
		}
	}
	for _, op := range opsOfTwo() {
		seen[b.two(op, 0, 1)] = true
		seen[b.two(op, 1, 0)] = true
		seen[b.two(op, 0, 0)] = true
		seen[b.two(op, 1, 1)] = true
	}
	if want := 4 + 4*len(opsOfOne()) + 4*len(opsOfTwo()); len(seen) != want || b.maker.Len() != want {
		t.Errorf("%d steps at %d places, want %d", b.maker.Len(), len(seen), want)
	}
}

// P17.3: the last step that a budget has room for, and what is called behind it.
func TestBudget(t *testing.T) {
	for budget := 1; budget < 8; budget++ {
		b := newBoth(t, budget)
		calls := []func(){
			func() { b.int(1) },
			func() { b.par() },
			func() { b.two(api.NdAdd, 0, 1) },
			func() { b.one(api.NdExp, 2) },
			func() { b.num(ratio(2, 4)) },
			func() { b.two(api.NdSub, 3, 4) },
			func() { b.one(api.NdLog, 5) },
		}
		for _, call := range calls {
			call()
		}
		if b.maker.Len() != budget {
			t.Fatalf("%d steps with the budget %d", b.maker.Len(), budget)
		}
		b.tape(budget - 1)
		for _, call := range calls {
			call()
		}
		b.int(9)
		b.one(api.NdRoot, 0)
		b.two(api.NdDiv, 0, budget-1)
		b.num(api.Frac{})
		b.one(api.NdRoot, budget)
		b.one(api.NdMul, 0)
		b.two(api.NdRoot, 0, 0)
		b.tape(0, tell("x", budget-1))
		b.tape(budget)
	}
}

// P17.3: a maker with the greatest budget.
func TestMostSteps(t *testing.T) {
	m := newMaker(t, mostNodes)
	i, e := m.Num(ratio(0, 1))
	is(t, "Num(0)", i, e, 0, api.OK)
	for k := 1; k < mostNodes; k++ {
		if i, e = m.One(api.NdExp, i); i != k || e != api.OK {
			t.Fatalf("the step %d is at %d, %d", k, i, e)
		}
	}
	for k := range mostNodes - 1 {
		if i, e = m.One(api.NdExp, k); i != k+1 || e != api.OK {
			t.Fatalf("the step %d is again at %d, %d", k+1, i, e)
		}
	}
	i, e = m.One(api.NdExp, mostNodes-1)
	is(t, "One too many", i, e, 0, api.ErrBudget)
	i, e = m.One(api.NdExp, mostNodes)
	is(t, "One of no step", i, e, 0, api.ErrArg)
	i, e = m.Two(api.NdAdd, 0, 0)
	is(t, "Two too many", i, e, 0, api.ErrBudget)
	i, e = m.Num(ratio(1, 1))
	is(t, "Num too many", i, e, 0, api.ErrBudget)
	i, e = m.Num(ratio(0, 5))
	is(t, "Num(0) again", i, e, 0, api.OK)
	i, e = m.Par()
	is(t, "Par too many", i, e, 0, api.ErrBudget)
	isMade(t, m, tapeOf(0, chain(mostNodes)...))
}

// P17.2 to P17.4: which error comes first.
func TestErrorsInOrder(t *testing.T) {
	m := newMaker(t, 1)
	m.Par()
	for _, c := range noNumbers() {
		i, e := m.Num(c)
		is(t, "Num", i, e, 0, api.ErrArg)
	}
	for _, c := range otherwise() {
		i, e := m.Num(c)
		is(t, "Num", i, e, 0, api.ErrBudget)
	}
	i, e := m.Par()
	is(t, "Par", i, e, 0, api.ErrBudget)
	for _, op := range slices.Concat(ops(), noOps()) {
		for _, a := range []int{0, 1, -1} {
			want := api.ErrArg
			if a == 0 && slices.Contains(opsOfOne(), op) {
				want = api.ErrBudget
			}
			i, e = m.One(op, a)
			is(t, "One", i, e, 0, want)
			want = api.ErrArg
			if a == 0 && slices.Contains(opsOfTwo(), op) {
				want = api.ErrBudget
			}
			i, e = m.Two(op, a, 0)
			is(t, "Two", i, e, 0, want)
			i, e = m.Two(op, 0, a)
			is(t, "Two", i, e, 0, want)
		}
	}
	isMade(t, m, tapeOf(1, par(0)))
}

// P17.4: which Out and Tells there may be, and what is made of them.
func TestTape(t *testing.T) {
	b := newBoth(t, 100)
	b.tape(0)
	b.par()
	b.tape(0)
	b.tape(1)
	b.int(2)
	b.two(api.NdMul, 0, 1)
	b.par()
	for _, out := range slices.Concat(farIndices(), []int{-1, 0, 1, 2, 3, 4, 5}) {
		b.tape(out)
		b.tape(out, []api.Tell{}...)
		b.tape(out, tell("a", 0), tell("a", 0), tell("", 3))
		b.tape(out, tell("a", 0), tell("b", 4))
		b.tape(0, tell("a", out))
		b.tape(0, tell("a", out), tell("b", 0))
		b.tape(0, tell("b", 0), tell("a", out))
		b.tape(0, tell("b", 0), tell("a", out), tell("\x00", 1))
	}
	x := b.tape(2, tell("x[1]", 3), tell("", 0), tell("x[1]", 3))
	want := api.Tape{Pars: 2, Out: 2, Nodes: []api.Node{par(0), num(2, 1), two(api.NdMul, 0, 1), par(1)}, Tells: []api.Tell{tell("x[1]", 3), tell("", 0), tell("x[1]", 3)}}
	if !isSame(x, want) {
		t.Errorf("made is %s, want %s", told(x), told(want))
	}
	many := slices.Repeat([]api.Tell{tell("a", 1), tell("b", 3)}, 50000)
	b.tape(1, many...)
	many[len(many)-1].At = 4
	b.tape(1, many...)
	many[len(many)-1].At, many[0].At = 3, -1
	b.tape(1, many...)
}

// P17.4: a maker goes on behind a Tape, and then another one.
func TestTapeAgain(t *testing.T) {
	b := newBoth(t, 4)
	b.par()
	first := b.tape(0, tell("x", 0))
	b.one(api.NdExp, 0)
	second := b.tape(1)
	b.par()
	b.two(api.NdAdd, 1, 2)
	third := b.tape(3, tell("x", 0), tell("y", 2))
	b.one(api.NdExp, 3)
	fourth := b.tape(3)
	nodes := []api.Node{par(0), one(api.NdExp, 0), par(1), two(api.NdAdd, 1, 2)}
	for _, c := range []struct{ got, want api.Tape }{
		{first, api.Tape{Pars: 1, Nodes: nodes[:1], Tells: []api.Tell{tell("x", 0)}}},
		{second, tapeOf(1, nodes[:2]...)},
		{third, api.Tape{Pars: 2, Out: 3, Nodes: nodes, Tells: []api.Tell{tell("x", 0), tell("y", 2)}}},
		{fourth, tapeOf(2, nodes...)},
	} {
		if !isSame(c.got, c.want) {
			t.Errorf("made is %s, want %s", told(c.got), told(c.want))
		}
	}
}
