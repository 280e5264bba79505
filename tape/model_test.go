package tape_test

import (
	"math/big"
	"slices"
	"testing"

	"stepstone/api"
	"stepstone/tape"
)

// lean is a node with nothing but what its Op has, if that is one.
func lean(n api.Node) (api.Node, bool) {
	switch {
	case n.Op == api.NdNum:
		return api.Node{Op: n.Op, C: n.C}, true
	case n.Op == api.NdPar, slices.Contains(opsOfOne(), n.Op):
		return api.Node{Op: n.Op, A: n.A}, true
	case slices.Contains(opsOfTwo(), n.Op):
		return api.Node{Op: n.Op, A: n.A, B: n.B}, true
	}
	return n, false
}

// steps are those that a node has: parameters are none.
func steps(n api.Node) []int {
	switch {
	case slices.Contains(opsOfOne(), n.Op):
		return []int{n.A}
	case slices.Contains(opsOfTwo(), n.Op):
		return []int{n.A, n.B}
	}
	return nil
}

// isSameNode looks at the numbers only where all else is the same, as that takes longer.
func isSameNode(a, b api.Node) bool {
	return a.Op == b.Op && a.A == b.A && a.B == b.B && isSame(a.C, b.C)
}

// isValid is the chapter's definition, read as it stands.
func isValid(t api.Tape) bool {
	in := func(i, n int) bool { return i >= 0 && i < n }
	if t.Pars < 0 || t.Pars > mostPars || len(t.Nodes) > mostNodes || len(t.Nodes) == 0 || !in(t.Out, len(t.Nodes)) {
		return false
	}
	for _, x := range t.Tells {
		if !in(x.At, len(t.Nodes)) {
			return false
		}
	}
	for i, n := range t.Nodes {
		want, is := lean(n)
		if !is || !isSameNode(n, want) || n.Op == api.NdNum && !isNormal(n.C) || n.Op == api.NdPar && !in(n.A, t.Pars) {
			return false
		}
		for _, k := range steps(n) {
			if !in(k, i) {
				return false
			}
		}
	}
	return true
}

// reached is what a walk from Out comes to.
func reached(t api.Tape) []bool {
	live := make([]bool, len(t.Nodes))
	for l := []int{t.Out}; len(l) > 0; {
		i := l[0]
		l = l[1:]
		if !live[i] {
			live[i] = true
			l = append(l, steps(t.Nodes[i])...)
		}
	}
	return live
}

// check holds Check and Live of any tape against the models of them.
func check(t *testing.T, x api.Tape) {
	t.Helper()
	want, e, live := isValid(x), tape.Check(x), tape.Live(x)
	switch {
	case !want:
		if e != api.ErrTape || live != nil {
			t.Errorf("not valid, but %d, live %v: %s", e, live, told(x))
		}
	case e != api.OK || !slices.Equal(live, reached(x)):
		t.Errorf("valid, but %d, live %v, want %v: %s", e, live, reached(x), told(x))
	}
}

// model is a maker whose steps are searched from the beginning.
type model struct {
	budget, pars int
	nodes        []api.Node
}

func (m *model) index(n api.Node) (int, api.Errno) {
	for i, x := range m.nodes {
		if isSameNode(x, n) {
			return i, api.OK
		}
	}
	if len(m.nodes) >= m.budget {
		return 0, api.ErrBudget
	}
	m.nodes = append(m.nodes, n)
	return len(m.nodes) - 1, api.OK
}

func (m *model) num(c api.Frac) (int, api.Errno) {
	if !isNumber(c) {
		return 0, api.ErrArg
	}
	return m.index(numOf(normal(valueOf(c))))
}

func (m *model) par() (int, api.Errno) {
	if len(m.nodes) >= m.budget || m.pars >= mostPars {
		return 0, api.ErrBudget
	}
	m.pars++
	return m.index(par(m.pars - 1))
}

func (m *model) of(list []uint8, n api.Node, l ...int) (int, api.Errno) {
	if !slices.Contains(list, n.Op) || slices.ContainsFunc(l, func(i int) bool { return i < 0 || i >= len(m.nodes) }) {
		return 0, api.ErrArg
	}
	return m.index(n)
}

func (m *model) tape(out int, tells []api.Tell) (api.Tape, api.Errno) {
	x := api.Tape{Pars: m.pars, Out: out, Nodes: m.nodes, Tells: tells}
	if !isValid(x) {
		return api.Tape{}, api.ErrArg
	}
	return x, api.OK
}

// both are a maker and the model of it. Each call is made to both, and what they answer held against each other.
type both struct {
	t     *testing.T
	maker *tape.Maker
	model model
	past  []api.Node
}

func newBoth(t *testing.T, budget int) *both {
	t.Helper()
	return &both{t: t, maker: newMaker(t, budget), model: model{budget: budget}}
}

// agree needs what two calls answered, and what the model did. It remembers the steps that were at the indices that were returned.
func (b *both) agree(what string, got int, e api.Errno, want int, f api.Errno) int {
	b.t.Helper()
	if got != want || e != f || b.maker.Len() != len(b.model.nodes) {
		b.t.Fatalf("%s of %s = %d, %d, and %d steps; want %d, %d", what, told(b.model), got, e, b.maker.Len(), want, f)
	}
	if len(b.model.nodes) > len(b.past) {
		b.past = append(b.past, filled(b.model.nodes[len(b.past)]))
	}
	return got
}

// twice makes a call two times: both answers have to be the same.
func (b *both) twice(what string, call func() (int, api.Errno)) (int, api.Errno) {
	b.t.Helper()
	got, e := call()
	if again, f := call(); again != got || e != f {
		b.t.Errorf("%s = %d, %d, and then %d, %d", what, got, e, again, f)
	}
	return got, e
}

func (b *both) num(c api.Frac) int {
	b.t.Helper()
	got, e := b.twice("Num "+told(c), func() (int, api.Errno) { return b.maker.Num(c) })
	want, f := b.model.num(c)
	return b.agree("Num "+told(c), got, e, want, f)
}

func (b *both) int(n int64) int {
	b.t.Helper()
	return b.num(normal(new(big.Rat).SetInt64(n)))
}

func (b *both) par() int {
	b.t.Helper()
	got, e := b.maker.Par()
	want, f := b.model.par()
	return b.agree("Par", got, e, want, f)
}

func (b *both) one(op uint8, x int) int {
	b.t.Helper()
	what := "One " + told(one(op, x))
	got, e := b.twice(what, func() (int, api.Errno) { return b.maker.One(op, x) })
	want, f := b.model.of(opsOfOne(), one(op, x), x)
	return b.agree(what, got, e, want, f)
}

func (b *both) two(op uint8, x, y int) int {
	b.t.Helper()
	what := "Two " + told(two(op, x, y))
	got, e := b.twice(what, func() (int, api.Errno) { return b.maker.Two(op, x, y) })
	want, f := b.model.of(opsOfTwo(), two(op, x, y), x, y)
	return b.agree(what, got, e, want, f)
}

// tape is checked to be valid, and to have what was returned so far where it was.
func (b *both) tape(out int, tells ...api.Tell) api.Tape {
	b.t.Helper()
	got, e := b.maker.Tape(out, tells)
	want, f := b.model.tape(out, tells)
	if e != f || !isSame(got, want) || e != api.OK && !isNoTape(got) {
		b.t.Fatalf("Tape(%d, %s) = %s, %d, want %s, %d", out, told(tells), told(got), e, told(want), f)
	}
	if e == api.OK {
		check(b.t, got)
		if tape.Check(got) != api.OK || !isSame(got.Nodes, b.past) {
			b.t.Errorf("Tape(%d, %s) = %s, want the steps %s", out, told(tells), told(got), told(b.past))
		}
	}
	if again, f := b.maker.Tape(out, tells); f != e || !tape.Same(again, got) {
		b.t.Errorf("Tape(%d, %s) is %s, %d the second time, at first %s, %d", out, told(tells), told(again), f, told(got), e)
	}
	return got
}
