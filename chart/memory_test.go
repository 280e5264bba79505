package chart_test

import (
	"math/rand/v2"
	"sync"
	"testing"

	"stepstone/api"
	"stepstone/chart"
	"stepstone/tape"
)

// R3: a call that was refused before it began has changed nothing, and one that failed has left what it made.
func TestRefused(t *testing.T) {
	g := rand.New(rand.NewPCG(20, 3))
	for range 500 {
		p := anyMaker(t, g, 1+g.IntN(30))
		before := madeBy(p.put)
		n := p.put.Len()
		if _, _, e := chart.Put(p.put, anyIndex(g, n), anyBound(g, n), anyBound(g, n)); e != api.OK && p.put.Len() == n && n > 0 && !tape.Same(madeBy(p.put), before) {
			t.Errorf("from %s to %s", shownTape(before), shownTape(madeBy(p.put)))
		}
		after := madeBy(p.put)
		if after.Nodes = after.Nodes[:n]; n > 0 && !tape.Same(after, before) {
			t.Errorf("from %s to %s", shownTape(before), shownTape(after))
		}
	}
}

// R4, R5: a tape that was made before, and another maker, know of no chart.
func TestOthersStay(t *testing.T) {
	p, q := begun(t, 100), begun(t, 100)
	first, _ := p.put.Tape(4, []api.Tell{{Name: "x", At: 1}})
	want, _ := q.put.Tape(4, []api.Tell{{Name: "x", At: 1}})
	p.chart(0, 1, 2)
	p.chart(0, none, none)
	if !tape.Same(first, want) || !tape.Same(madeBy(q.put), madeBy(q.plain)) || q.put.Len() != 5 {
		t.Errorf("%s, %s", shownTape(first), shownTape(madeBy(q.put)))
	}
	q.chart(0, 1, 2)
}

// R5: two charts share no number: what is done to a tape changes no maker.
func TestTapesApart(t *testing.T) {
	p := begun(t, 100)
	p.chart(0, 1, 2)
	x, want := madeBy(p.put), madeBy(p.put)
	for i := range x.Nodes {
		for k := range x.Nodes[i].C.N.M {
			x.Nodes[i].C.N.M[k] = 93
		}
		for k := range x.Nodes[i].C.D {
			x.Nodes[i].C.D[k] = 93
		}
		x.Nodes[i] = api.Node{Op: 93}
	}
	if !tape.Same(madeBy(p.put), want) {
		t.Errorf("%s, want %s", shownTape(madeBy(p.put)), shownTape(want))
	}
	p.chart(3, 1, 2)
	if !tape.Same(madeBy(begunWith(t)), want) {
		t.Error("another maker makes another chart")
	}
}

// begunWith has the first chart of TestTapesApart.
func begunWith(t *testing.T) *tape.Maker {
	m := begun(t, 100).put
	chart.Put(m, 0, 1, 2)
	return m
}

// R4: makers side by side do not know of each other.
func TestSideBySide(t *testing.T) {
	want := madeBy(begunWith(t))
	var wait sync.WaitGroup
	for range 8 {
		wait.Go(func() {
			for range 50 {
				m := begunWith(t)
				x, j, e := chart.Put(m, 0, 1, 2)
				if e != api.OK || x != 12 || j != 18 || !tape.Same(madeBy(m), want) {
					t.Errorf("%s of %s", shownAnswer(x, j, e), shownTape(madeBy(m)))
				}
				if x, j, e = chart.Put(m, 99, 1, 2); x != 0 || j != 0 || e != api.ErrArg {
					t.Errorf("%s of no step", shownAnswer(x, j, e))
				}
			}
		})
	}
	wait.Wait()
}
