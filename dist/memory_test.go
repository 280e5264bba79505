package dist_test

import (
	"math/rand/v2"
	"slices"
	"sync"
	"testing"

	"stepstone/api"
	"stepstone/tape"
)

// R3: a call that was refused before it began has changed nothing, and one that failed has left what it made.
func TestRefused(t *testing.T) {
	g := rand.New(rand.NewPCG(21, 3))
	for range 1000 {
		p := anyMaker(t, g, 1+g.IntN(30))
		before := madeBy(p.put)
		n := p.put.Len()
		c := anyCall(g, n)
		if _, e := c.call(p.put); (e == api.ErrName || e == api.ErrArg) && p.put.Len() != n {
			t.Errorf("%s: error %d, but %d steps, and then %d", c.shown(), e, n, p.put.Len())
		}
		after := madeBy(p.put)
		if after.Nodes = after.Nodes[:n]; n > 0 && !tape.Same(after, before) {
			t.Errorf("from %s to %s", shownTape(before), shownTape(after))
		}
	}
}

// R5: arguments are not changed, nor what is behind them, and not kept.
func TestArgumentsStay(t *testing.T) {
	eachTerm(parX, []int{parA, parB}, func(c asked) {
		p := begun(t, 100)
		whole := []int{93, 94, 95, 96, 97, 98}
		n := copy(whole[1:], c.args)
		want := slices.Clone(whole)
		c.args = whole[1 : 1+n]
		for range 2 {
			if _, e := c.call(p.put); e != api.OK || !slices.Equal(whole, want) {
				t.Errorf("%s: error %d, %v, want %v", c.shown(), e, whole, want)
			}
		}
		c.args = whole[1 : 2+n]
		if _, e := c.call(p.put); e != api.ErrArg || !slices.Equal(whole, want) {
			t.Errorf("%s: error %d, %v, want %v", c.shown(), e, whole, want)
		}
		for i := range whole {
			whole[i] = 0
		}
		c.args = want[1 : 1+n]
		c.byHand(p.plain)
		if !tape.Same(madeBy(p.put), madeBy(p.plain)) {
			t.Errorf("%s made %s, want %s", c.shown(), shownTape(madeBy(p.put)), shownTape(madeBy(p.plain)))
		}
		p.ask(c)
	})
}

// R4, R5: a tape that was made before, and another maker, know of no term.
func TestOthersStay(t *testing.T) {
	p, q := begun(t, 1000), begun(t, 1000)
	tells := []api.Tell{{Name: "x", At: 1}}
	first, _ := p.put.Tape(others, tells)
	want, _ := q.put.Tape(others, tells)
	eachTerm(parX, []int{parA, parB}, func(c asked) { p.ask(c) })
	if !tape.Same(first, want) || !tape.Same(madeBy(q.put), madeBy(q.plain)) || q.put.Len() != begunSteps {
		t.Errorf("%s, %s", shownTape(first), shownTape(madeBy(q.put)))
	}
	eachTerm(parX, []int{parA, parB}, func(c asked) { q.ask(c) })
}

// withAll has all terms of TestTapesApart.
func withAll(t *testing.T) *tape.Maker {
	m := begun(t, 1000).put
	eachTerm(parX, []int{parA, parB}, func(c asked) { c.call(m) })
	return m
}

// R5: two terms share no number: what is done to a tape changes no maker.
func TestTapesApart(t *testing.T) {
	m := withAll(t)
	x, want := madeBy(m), madeBy(m)
	for i := range x.Nodes {
		for k := range x.Nodes[i].C.N.M {
			x.Nodes[i].C.N.M[k] = 93
		}
		for k := range x.Nodes[i].C.D {
			x.Nodes[i].C.D[k] = 93
		}
		x.Nodes[i] = api.Node{Op: 93}
	}
	if !tape.Same(madeBy(m), want) {
		t.Errorf("%s, want %s", shownTape(madeBy(m)), shownTape(want))
	}
	eachTerm(parX, []int{parA, parB}, func(c asked) { c.call(m) })
	if !tape.Same(madeBy(m), want) || !tape.Same(madeBy(withAll(t)), want) {
		t.Error("the terms are other ones")
	}
}

// R4: makers side by side do not know of each other.
func TestSideBySide(t *testing.T) {
	want := madeBy(withAll(t))
	var wait sync.WaitGroup
	for range 8 {
		wait.Go(func() {
			for range 30 {
				m := withAll(t)
				if !tape.Same(madeBy(m), want) {
					t.Errorf("%s, want %s", shownTape(madeBy(m)), shownTape(want))
				}
				term("normal", parX, parA, 9999).is(t, "no step", m, 0, api.ErrArg)
			}
		})
	}
	wait.Wait()
}
