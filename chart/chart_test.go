package chart_test

import (
	"math/rand/v2"
	"slices"
	"strconv"
	"testing"

	"stepstone/api"
	"stepstone/chart"
	"stepstone/fore"
	"stepstone/tape"
)

// begun has the parameters 0 and 1 at 0 and 3, the numbers 3 and 5 at 1 and 2, and a step of others at 4.
func begun(t *testing.T, budget int) pair {
	t.Helper()
	p := newPair(t, budget)
	p.par()
	p.num(3, 1)
	p.num(5, 1)
	p.par()
	p.two(api.NdMul, 1, 3)
	return p
}

// P20.1: the chapter's examples.
func TestExamples(t *testing.T) {
	m := newMaker(t, 10)
	m.Par()
	putIs(t, "no bounds", m, 0, none, none, 0, 1, api.OK)
	isMade(t, "no bounds", m, 1, par(0), number(0))
	putIs(t, "the lower bound 0", m, 0, 1, none, 3, 0, api.OK)
	isMade(t, "the lower bound 0", m, 1, par(0), number(0), one(api.NdExp, 0), two(api.NdAdd, 1, 2))
	x, e := m.Tape(3, nil)
	if a, f := fore.At(x, nums("0"), 0); e != api.OK || f != api.OK || !slices.Equal(a.Lo.M.M, api.Nat{1}) || a.Lo.E != 0 || !slices.Equal(a.Hi.M.M, api.Nat{1}) || a.Hi.E != 0 {
		t.Errorf("the parameter at 0 is %s, %d, %d, want 1", shown(a), e, f)
	}
}

// P20.1: each row of the table, its steps written out.
func TestRows(t *testing.T) {
	first := []api.Node{par(0), number(3), number(5)}
	for _, c := range []struct {
		what         string
		lower, upper int
		x, j         int
		nodes        []api.Node
	}{
		{"no bounds", none, none, 0, 3, []api.Node{number(0)}},
		{"a lower bound", 1, none, 4, 0, []api.Node{one(api.NdExp, 0), two(api.NdAdd, 1, 3)}},
		{"an upper bound", none, 2, 4, 0, []api.Node{one(api.NdExp, 0), two(api.NdSub, 2, 3)}},
		{"both", 1, 2, 10, 16, []api.Node{
			two(api.NdSub, 2, 1), number(1), one(api.NdNeg, 0), one(api.NdExp, 5), two(api.NdAdd, 4, 6), two(api.NdDiv, 4, 7),
			two(api.NdMul, 3, 8), two(api.NdAdd, 1, 9), one(api.NdLog, 3), two(api.NdSub, 11, 0), one(api.NdLog, 7),
			number(2), two(api.NdMul, 14, 13), two(api.NdSub, 12, 15),
		}},
		{"both, the wrong way round", 2, 1, 10, 16, []api.Node{
			two(api.NdSub, 1, 2), number(1), one(api.NdNeg, 0), one(api.NdExp, 5), two(api.NdAdd, 4, 6), two(api.NdDiv, 4, 7),
			two(api.NdMul, 3, 8), two(api.NdAdd, 2, 9), one(api.NdLog, 3), two(api.NdSub, 11, 0), one(api.NdLog, 7),
			number(2), two(api.NdMul, 14, 13), two(api.NdSub, 12, 15),
		}},
		{"both one step", 1, 1, 10, 16, []api.Node{
			two(api.NdSub, 1, 1), number(1), one(api.NdNeg, 0), one(api.NdExp, 5), two(api.NdAdd, 4, 6), two(api.NdDiv, 4, 7),
			two(api.NdMul, 3, 8), two(api.NdAdd, 1, 9), one(api.NdLog, 3), two(api.NdSub, 11, 0), one(api.NdLog, 7),
			number(2), two(api.NdMul, 14, 13), two(api.NdSub, 12, 15),
		}},
	} {
		for _, budget := range []int{len(first) + len(c.nodes), 100, mostNodes} {
			m := newMaker(t, budget)
			m.Par()
			m.Num(ratio(3, 1))
			m.Num(ratio(5, 1))
			putIs(t, c.what, m, 0, c.lower, c.upper, c.x, c.j, api.OK)
			isMade(t, c.what, m, 1, slices.Concat(first, c.nodes)...)
			putIs(t, c.what+", again", m, 0, c.lower, c.upper, c.x, c.j, api.OK)
			isMade(t, c.what+", again", m, 1, slices.Concat(first, c.nodes)...)
		}
	}
}

// around are indices of all kinds where there are so many steps.
func around(n int) []int {
	l := []int{-3, -2, -1, n, n + 1, n + 2, n + 20}
	for i := range n {
		l = append(l, i)
	}
	return append(l, farIntegers()...)
}

// P20.1: each u, step or not, with each row of the table; bounds of all kinds, each by itself and both.
func TestIndices(t *testing.T) {
	const n = 5
	met := map[api.Errno]int{}
	for _, u := range around(n) {
		for _, lower := range around(n) {
			for _, upper := range around(n) {
				p := begun(t, 100)
				x, j, e := p.chart(u, lower, upper)
				met[e]++
				switch {
				case u < 0 || u >= n || lower < none || upper < none:
					if e != api.ErrArg || p.put.Len() != n {
						t.Errorf("Put %s = %s, and %d steps", shownCall(u, lower, upper), shownAnswer(x, j, e), p.put.Len())
					}
				case lower < n && upper < n:
					if e != api.OK {
						t.Errorf("Put %s = %s", shownCall(u, lower, upper), shownAnswer(x, j, e))
					}
				case lower != none && upper != none:
					if e != api.ErrArg || p.put.Len() != n {
						t.Errorf("Put %s = %s, and %d steps", shownCall(u, lower, upper), shownAnswer(x, j, e), p.put.Len())
					}
				}
				p.par()
				p.chart(p.put.Len()-1, 1, none)
			}
		}
	}
	if met[api.OK] < 100 || met[api.ErrArg] < 1000 || len(met) != 2 {
		t.Errorf("met are %v", met)
	}
}

// P20.1: nothing is made where u is no step, or a bound is below -1, also if the budget is used up, and whatever the other bound is.
func TestNothingIsMade(t *testing.T) {
	for _, budget := range []int{5, 6, 100} {
		p := begun(t, budget)
		want := madeBy(p.put)
		wrong := append([]int{-2, -3}, farIntegers()[:4]...)
		for _, i := range slices.Concat(wrong, []int{none, 5, 6}, farIntegers()[4:]) {
			for _, other := range []int{none, 0, 4, 5, 6} {
				putIs(t, "u", p.put, i, other, none, 0, 0, api.ErrArg)
				putIs(t, "u", p.put, i, none, other, 0, 0, api.ErrArg)
				putIs(t, "u", p.put, i, 1, other, 0, 0, api.ErrArg)
			}
		}
		for _, i := range wrong {
			for _, other := range slices.Concat(wrong, []int{none, 0, 4, 5, 6}) {
				putIs(t, "a lower bound", p.put, 0, i, other, 0, 0, api.ErrArg)
				putIs(t, "an upper bound", p.put, 0, other, i, 0, 0, api.ErrArg)
			}
		}
		if !tape.Same(madeBy(p.put), want) {
			t.Errorf("made is %s", shownTape(madeBy(p.put)))
		}
		p.chart(0, 1, 2)
	}
}

// P20.1: a bound that is no step is an error of the call that it is handed to, and what was made before it stays. The first step that is made may be that bound.
func TestBoundBeyond(t *testing.T) {
	const n = 5
	for _, op := range []uint8{api.NdAdd, api.NdSub} {
		put := func(m *tape.Maker, u, bound int) (int, int, api.Errno) {
			if op == api.NdAdd {
				return chart.Put(m, u, bound, none)
			}
			return chart.Put(m, u, none, bound)
		}
		for _, bound := range slices.Concat([]int{n + 1, n + 2, 100}, farIntegers()[4:]) {
			m := begun(t, 100).put
			before := madeBy(m).Nodes
			if x, j, e := put(m, 4, bound); x != 0 || j != 0 || e != api.ErrArg {
				t.Errorf("with a bound at %d: %s", bound, shownAnswer(x, j, e))
			}
			isMade(t, "with a bound beyond", m, 2, append(before, one(api.NdExp, 4))...)
		}
		m := begun(t, 100).put
		before := madeBy(m).Nodes
		if x, j, e := put(m, 4, n); x != n+1 || j != 4 || e != api.OK {
			t.Errorf("with a bound that is made: %s", shownAnswer(x, j, e))
		}
		isMade(t, "with a bound that is made", m, 2, append(before, one(api.NdExp, 4), two(op, n, n))...)
		m = begun(t, 100).put
		m.One(api.NdExp, 4)
		before = madeBy(m).Nodes
		if x, j, e := put(m, 4, n+1); x != 0 || j != 0 || e != api.ErrArg {
			t.Errorf("with a bound that is not made: %s", shownAnswer(x, j, e))
		}
		isMade(t, "with a bound that is not made", m, 2, before...)
	}
	m := begun(t, 100).put
	before := madeBy(m).Nodes
	for _, bound := range slices.Concat([]int{n, n + 1, 100}, farIntegers()[4:]) {
		putIs(t, "both, the lower one beyond", m, 0, bound, 1, 0, 0, api.ErrArg)
		putIs(t, "both, the upper one beyond", m, 0, 1, bound, 0, 0, api.ErrArg)
		putIs(t, "both beyond", m, 0, bound, bound, 0, 0, api.ErrArg)
	}
	isMade(t, "both", m, 2, before...)
}

// P20.1: ErrArg of a call comes before the budget that is used up.
func TestArgBeforeBudget(t *testing.T) {
	m := begun(t, 5).put
	before := madeBy(m).Nodes
	putIs(t, "the first step has no room", m, 0, 99, none, 0, 0, api.ErrBudget)
	putIs(t, "the first step has no room", m, 0, none, 99, 0, 0, api.ErrBudget)
	putIs(t, "the first step is none", m, 0, 99, 1, 0, 0, api.ErrArg)
	putIs(t, "the first step is none", m, 0, 1, 99, 0, 0, api.ErrArg)
	putIs(t, "the first step has no room", m, 0, 1, 2, 0, 0, api.ErrBudget)
	putIs(t, "the zero has no room", m, 0, none, none, 0, 0, api.ErrBudget)
	isMade(t, "without room", m, 2, before...)
	m = begun(t, 6).put
	m.One(api.NdExp, 0)
	putIs(t, "the second step is none", m, 0, 6, none, 0, 0, api.ErrArg)
	putIs(t, "the second step is none", m, 0, none, 6, 0, 0, api.ErrArg)
	putIs(t, "the second step has no room", m, 0, 5, none, 0, 0, api.ErrBudget)
	putIs(t, "the second step has no room", m, 0, none, 5, 0, 0, api.ErrBudget)
	isMade(t, "without room", m, 2, append(before, one(api.NdExp, 0))...)
}

// P20.1: ErrNil comes before all else.
func TestNoMaker(t *testing.T) {
	zero := new(tape.Maker)
	l := slices.Concat([]int{-2, -1, 0, 1, 2}, farIntegers())
	for _, u := range l {
		for _, lower := range l {
			for _, upper := range l {
				putIs(t, "nil", nil, u, lower, upper, 0, 0, api.ErrNil)
				putIs(t, "one that no New made", zero, u, lower, upper, 0, 0, api.ErrNil)
			}
		}
	}
	refused, _ := tape.New(0)
	putIs(t, "one that New refused", refused, 0, none, none, 0, 0, api.ErrNil)
}

// P20.1: a maker without steps has no u.
func TestNoSteps(t *testing.T) {
	m := newMaker(t, 10)
	for _, u := range around(0) {
		for _, bound := range []int{none, 0, 1} {
			putIs(t, "no steps", m, u, bound, none, 0, 0, api.ErrArg)
			putIs(t, "no steps", m, u, none, bound, 0, 0, api.ErrArg)
			putIs(t, "no steps", m, u, bound, bound, 0, 0, api.ErrArg)
		}
	}
	if m.Len() != 0 {
		t.Errorf("made is %s", shownTape(madeBy(m)))
	}
}

// eachRow calls for each row of the table.
func eachRow(lower, upper int, call func(lower, upper int)) {
	call(none, none)
	call(lower, none)
	call(none, upper)
	call(lower, upper)
}

// P20.1: what a maker has already is found: the numbers, each step of the chart by itself, and each beginning of it.
func TestThere(t *testing.T) {
	for _, numbers := range [][]int64{{0}, {1}, {2}, {2, 1}, {2, 1, 0}, {0, 1, 2}} {
		eachRow(1, 2, func(lower, upper int) {
			p := begun(t, 100)
			for _, n := range numbers {
				p.num(n, 1)
			}
			p.chart(0, lower, upper)
			p.chart(4, lower, upper)
		})
	}
	eachRow(1, 2, func(lower, upper int) {
		lines, _, _ := table(lower != none, upper != none)
		for skip := range lines {
			p := begun(t, 100)
			for _, m := range []*tape.Maker{p.put, p.plain} {
				at := map[string]int{"u": 4, "L": lower, "U": upper}
				for _, text := range lines[:skip] {
					if e := line(m, text, at); e != api.OK {
						t.Fatal(e)
					}
				}
				m.Two(api.NdDiv, 1, 2)
			}
			p.chart(4, lower, upper)
		}
	})
	p := begun(t, 100)
	power := p.one(api.NdExp, 0)
	p.two(api.NdAdd, 1, power)
	n := p.put.Len()
	if x, j, e := p.chart(0, 1, none); x != n-1 || j != 0 || e != api.OK || p.put.Len() != n {
		t.Errorf("Put = %s, and %d steps", shownAnswer(x, j, e), p.put.Len())
	}
	width := p.two(api.NdSub, 2, 1)
	p.one(api.NdLog, width)
	p.chart(0, 1, 2)
}

// P20.1: the same chart again, charts of several u with the same bounds, of one u with several bounds, and charts of charts.
func TestSeveral(t *testing.T) {
	p := begun(t, 1000)
	us := []int{0, 1, 2, 3, 4}
	for range 2 {
		for _, u := range us {
			eachRow(1, 2, func(lower, upper int) { p.chart(u, lower, upper) })
		}
	}
	n := p.put.Len()
	for _, u := range us {
		eachRow(1, 2, func(lower, upper int) { p.chart(u, lower, upper) })
	}
	if p.put.Len() != n {
		t.Errorf("%d steps, and then %d", n, p.put.Len())
	}
	for _, i := range []int{0, 1, 2, 3, 4} {
		for _, k := range []int{0, 1, 2, 3, 4} {
			x, j, _ := p.chart(0, i, k)
			p.chart(x, i, k)
			p.chart(j, x, k)
			p.chart(i, j, none)
			p.chart(k, none, x)
		}
	}
}

// P20.1: a bound that is u itself, and u that is a number.
func TestBoundIsU(t *testing.T) {
	for u := range 5 {
		for _, c := range [][2]int{{u, none}, {none, u}, {u, u}, {u, 1}, {1, u}} {
			p := begun(t, 100)
			if x, j, e := p.chart(u, c[0], c[1]); e != api.OK {
				t.Errorf("Put %s = %s", shownCall(u, c[0], c[1]), shownAnswer(x, j, e))
			}
		}
	}
}

// P20.1: budgets that are just enough, and each smaller one. What was made before the error stays, and the maker goes on.
func TestBudgets(t *testing.T) {
	eachRow(1, 2, func(lower, upper int) {
		roomy := begun(t, 100)
		roomy.chart(4, lower, upper)
		all := madeBy(roomy.put).Nodes
		for budget := 5; budget <= len(all)+1; budget++ {
			p := begun(t, budget)
			x, j, e := p.chart(4, lower, upper)
			want := api.ErrBudget
			if budget >= len(all) {
				want = api.OK
			}
			if e != want || e != api.OK && (x != 0 || j != 0) {
				t.Errorf("Put %s with the budget %d = %s", shownCall(4, lower, upper), budget, shownAnswer(x, j, e))
			}
			isMade(t, "with the budget "+strconv.Itoa(budget), p.put, 2, all[:min(budget, len(all))]...)
			p.par()
			p.num(0, 1)
			p.num(1, 1)
			p.one(api.NdExp, 4)
			p.two(api.NdSub, 2, 1)
			p.chart(0, none, none)
			p.chart(4, none, upper)
		}
	})
}

// P20.1: budgets that suffice because steps are there, or are found once more.
func TestBudgetsThere(t *testing.T) {
	for budget := 6; budget < 30; budget++ {
		p := begun(t, budget)
		p.num(2, 1)
		p.chart(4, 1, 2)
		p.chart(0, 1, 2)
		p.chart(0, 1, none)
		p.chart(3, none, none)
		p.chart(4, 1, 2)
	}
	p := begun(t, 7)
	p.one(api.NdExp, 0)
	p.num(0, 1)
	if x, j, e := p.chart(2, none, none); x != 2 || j != 6 || e != api.OK {
		t.Errorf("no bounds, the zero is there: %s", shownAnswer(x, j, e))
	}
}

// P20.1: makers that are as great as can be.
func TestGreat(t *testing.T) {
	for _, room := range []int{0, 1, 13, 14, 15} {
		p := newPair(t, mostNodes)
		for range mostPars {
			p.par()
		}
		last := mostPars - 1
		for p.put.Len() < mostNodes-room {
			last = p.one(api.NdExp, last)
		}
		p.chart(last, 0, 1)
		p.chart(0, last, last-1)
		p.chart(last+1, 0, 1)
		p.chart(0, last+1, 1)
	}
}

// anyMaker does anything to both makers.
func anyMaker(t *testing.T, g *rand.Rand, budget int) pair {
	p := newPair(t, budget)
	for range 1 + g.IntN(20) {
		n := max(p.put.Len(), 1)
		switch g.IntN(4) {
		case 0:
			p.par()
		case 1:
			p.num(g.Int64N(5)-1, 1+g.Int64N(2))
		case 2:
			p.one(oneOf(g, opsOfOne()...), g.IntN(n))
		default:
			p.two(oneOf(g, opsOfTwo()...), g.IntN(n), g.IntN(n))
		}
	}
	return p
}

// anyIndex is mostly that of a step.
func anyIndex(g *rand.Rand, n int) int {
	switch g.IntN(12) {
	case 0:
		return oneOf(g, farIntegers()...)
	case 1:
		return n + g.IntN(3)
	case 2:
		return -2
	}
	return g.IntN(max(n, 1))
}

func anyBound(g *rand.Rand, n int) int {
	if g.IntN(3) == 0 {
		return none
	}
	return anyIndex(g, n)
}

// P20.1: random makers, budgets, bounds and rows of charts.
func TestAny(t *testing.T) {
	g := rand.New(rand.NewPCG(20, 1))
	met := map[string]int{}
	for range 6000 {
		p := anyMaker(t, g, 1+g.IntN(60))
		for range 1 + g.IntN(6) {
			n := p.put.Len()
			lower, upper := anyBound(g, n), anyBound(g, n)
			_, _, e := p.chart(anyIndex(g, n), lower, upper)
			met[strconv.Itoa(int(e))+" "+strconv.FormatBool(lower == none)+" "+strconv.FormatBool(upper == none)]++
			p.par()
			p.one(oneOf(g, opsOfOne()...), g.IntN(max(n, 1)))
		}
	}
	for _, e := range []api.Errno{api.OK, api.ErrArg, api.ErrBudget} {
		for _, row := range []string{" true true", " false true", " true false", " false false"} {
			if what := strconv.Itoa(int(e)) + row; met[what] < 50 {
				t.Errorf("only %d of %s", met[what], what)
			}
		}
	}
}
