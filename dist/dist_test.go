package dist_test

import (
	"math/big"
	"math/rand/v2"
	"slices"
	"strconv"
	"strings"
	"testing"

	"stepstone/api"
	"stepstone/dist"
	"stepstone/tape"
)

// The steps of begun: three parameters, two numbers, and a step of others.
const (
	parX, parA, parB    = 0, 1, 2
	three, half, others = 3, 4, 5
	begunSteps          = 6
)

func begun(t *testing.T, budget int) pair {
	t.Helper()
	p := newPair(t, budget)
	p.par()
	p.par()
	p.par()
	p.num(3, 1)
	p.num(1, 2)
	p.two(api.NdMul, parX, parA)
	return p
}

// someCounts are the k of different rows, and some that are alike.
func someCounts() []int64 { return []int64{0, 1, 2, -1} }

// eachTerm calls for each row of the table, of x and as many of the arguments as it has.
func eachTerm(x int, args []int, call func(c asked)) {
	for _, name := range termNames() {
		call(term(name, x, args[:argsOf(false)[name]]...))
	}
	for _, name := range countNames() {
		for _, k := range someCounts() {
			call(count(name, k, args[:argsOf(true)[name]]...))
		}
	}
}

// The chapter's examples.
func TestExamples(t *testing.T) {
	m := newMaker(t, 100)
	one, two, three := must(m.Num(ratio(1, 1))), must(m.Num(ratio(2, 1))), must(m.Num(ratio(3, 1)))
	i, e := dist.Term(m, "normal", three, []int{one, two})
	if e != api.OK {
		t.Fatalf("normal is %s", shownAnswer(i, e))
	}
	rest := must(m.Two(api.NdAdd, i, must(m.One(api.NdLog, two))))
	if a := known(t, m, rest, nil, 3); !isIn(a, big.NewRat(-1, 2), 100) {
		t.Errorf("normal, and log 2, is %s", shown(a))
	}
	if i, e = dist.Term(m, "exponential", two, []int{one}); e != api.OK || !isIn(known(t, m, i, nil, 0), big.NewRat(-2, 1), 1000) {
		t.Errorf("exponential is %s: %s", shownAnswer(i, e), shown(known(t, m, i, nil, 0)))
	}
	if i, e = dist.Count(m, "poisson", 2, []int{one}); e != api.OK || !isIn(known(t, m, i, nil, 0), big.NewRat(-1, 1), 1000) {
		t.Errorf("poisson of 2 is %s: %s", shownAnswer(i, e), shown(known(t, m, i, nil, 0)))
	}
	if i, e = dist.Count(m, "poisson", -1, []int{one}); e != api.OK || known(t, m, i, nil, 0).Kind != api.IvUndef {
		t.Errorf("poisson of -1 is %s: %s", shownAnswer(i, e), shown(known(t, m, i, nil, 0)))
	}
}

// made are the steps that a row is to make behind the parameters x, a and b.
type made struct {
	c     asked
	nodes []api.Node
}

func termRows() []made {
	return []made{
		{term("normal", 0, 1, 2), []api.Node{
			two(api.NdSub, 0, 1), two(api.NdDiv, 3, 2), two(api.NdMul, 4, 4), number(2), two(api.NdDiv, 5, 6), one(api.NdNeg, 7),
			one(api.NdLog, 2), two(api.NdSub, 8, 9),
		}},
		{term("lognormal", 0, 1, 2), []api.Node{
			one(api.NdLog, 0), two(api.NdSub, 3, 1), two(api.NdDiv, 4, 2), two(api.NdMul, 5, 5), number(2), two(api.NdDiv, 6, 7),
			one(api.NdNeg, 8), one(api.NdLog, 2), two(api.NdSub, 9, 10), two(api.NdSub, 11, 3),
		}},
		{term("cauchy", 0, 1, 2), []api.Node{
			two(api.NdSub, 0, 1), two(api.NdDiv, 3, 2), number(1), two(api.NdMul, 4, 4), two(api.NdAdd, 5, 6), one(api.NdLog, 7),
			one(api.NdNeg, 8), one(api.NdLog, 2), two(api.NdSub, 9, 10),
		}},
		{term("exponential", 0, 1), []api.Node{
			one(api.NdNeed, 0), one(api.NdLog, 1), two(api.NdMul, 1, 0), two(api.NdSub, 4, 5), two(api.NdAdd, 3, 6),
		}},
		{term("gamma", 0, 1, 2), []api.Node{
			one(api.NdNeed, 1), one(api.NdLog, 2), two(api.NdMul, 1, 4), two(api.NdAdd, 3, 5), number(1), two(api.NdSub, 1, 7),
			one(api.NdLog, 0), two(api.NdMul, 8, 9), two(api.NdAdd, 6, 10), two(api.NdMul, 2, 0), two(api.NdSub, 11, 12),
		}},
		{term("beta", 0, 1, 2), []api.Node{
			one(api.NdNeed, 1), one(api.NdNeed, 2), two(api.NdAdd, 3, 4), number(1), two(api.NdSub, 1, 6), one(api.NdLog, 0),
			two(api.NdMul, 7, 8), two(api.NdAdd, 5, 9), two(api.NdSub, 2, 6), two(api.NdSub, 6, 0), one(api.NdLog, 12),
			two(api.NdMul, 11, 13), two(api.NdAdd, 10, 14),
		}},
		{term("uniform", 0, 1, 2), []api.Node{
			two(api.NdSub, 0, 1), one(api.NdNeed, 3), two(api.NdSub, 2, 0), one(api.NdNeed, 5), two(api.NdAdd, 4, 6),
			two(api.NdSub, 2, 1), one(api.NdLog, 8), two(api.NdSub, 7, 9),
		}},
	}
}

func countRows() []made {
	never := []api.Node{number(0), one(api.NdNeed, 3)}
	out := []made{
		{count("bernoulli", 1, 1), []api.Node{
			one(api.NdLog, 1), number(1), two(api.NdSub, 4, 1), one(api.NdNeed, 5), two(api.NdAdd, 3, 6),
		}},
		{count("bernoulli", 0, 1), []api.Node{
			number(1), two(api.NdSub, 3, 1), one(api.NdLog, 4), one(api.NdNeed, 1), two(api.NdAdd, 5, 6),
		}},
		{count("bernoulli_logit", 1, 1), []api.Node{
			number(1), one(api.NdNeg, 1), one(api.NdExp, 4), two(api.NdAdd, 3, 5), one(api.NdLog, 6), one(api.NdNeg, 7),
		}},
		{count("bernoulli_logit", 0, 1), []api.Node{
			number(1), one(api.NdExp, 1), two(api.NdAdd, 3, 4), one(api.NdLog, 5), one(api.NdNeg, 6),
		}},
	}
	for _, k := range farCounts() {
		poisson, logarithm := never, never
		if k >= 0 {
			poisson = []api.Node{number(k), one(api.NdLog, 1), two(api.NdMul, 3, 4), two(api.NdSub, 5, 1)}
			logarithm = []api.Node{number(k), two(api.NdMul, 3, 1), one(api.NdExp, 1), two(api.NdSub, 4, 5)}
		}
		out = append(out, made{count("poisson", k, 1), poisson}, made{count("poisson_log", k, 1), logarithm})
		if k != 0 && k != 1 {
			out = append(out, made{count("bernoulli", k, 1), never}, made{count("bernoulli_logit", k, 1), never})
		}
	}
	return out
}

// P21.1, P21.2: each row of the table, its steps written out, with budgets that are just enough and more.
func TestRows(t *testing.T) {
	pars := []api.Node{par(0), par(1), par(2)}
	for _, r := range slices.Concat(termRows(), countRows()) {
		all := slices.Concat(pars, r.nodes)
		for _, budget := range []int{len(all), len(all) + 1, 100, mostNodes} {
			m := newMaker(t, budget)
			for range pars {
				m.Par()
			}
			for range 2 {
				r.c.is(t, "a row", m, len(all)-1, api.OK)
				isMade(t, r.c.shown(), m, 3, all...)
			}
		}
	}
}

// P21.1, P21.2: each row of steps of all kinds, one and the same step twice or three times among them.
func TestAllSteps(t *testing.T) {
	for x := range begunSteps {
		for a := range begunSteps {
			for b := range begunSteps {
				eachTerm(x, []int{a, b}, func(c asked) {
					p := begun(t, 100)
					if i, e := p.ask(c); e != api.OK {
						t.Errorf("%s = %s", c.shown(), shownAnswer(i, e))
					}
				})
			}
		}
	}
}

// P21.2: each k, also where its number is there.
func TestAllCounts(t *testing.T) {
	for _, name := range countNames() {
		for _, k := range farCounts() {
			p := begun(t, 100)
			p.ask(count(name, k, parA))
			p.ask(count(name, k, others))
			p = begun(t, 100)
			p.num(k, 1)
			p.ask(count(name, k, parA))
		}
		p := begun(t, 1000)
		for _, k := range farCounts() {
			p.ask(count(name, k, half))
		}
	}
}

// P21.1, P21.2: one row made of a number that it makes itself.
func TestOwnNumbers(t *testing.T) {
	for _, n := range []int64{0, 1, 2, -1} {
		p := begun(t, 1000)
		i := p.num(n, 1)
		for _, l := range [][3]int{{i, parA, parB}, {parX, i, parB}, {parX, parA, i}, {i, i, i}} {
			eachTerm(l[0], l[1:], func(c asked) { p.ask(c) })
		}
	}
}

// P21.1, P21.2: what a maker has already is found: the numbers, and each beginning of a term.
func TestThere(t *testing.T) {
	for _, numbers := range [][]int64{{0}, {1}, {2}, {2, 1}, {2, 1, 0}, {0, 1, 2, -1}} {
		eachTerm(parX, []int{parA, parB}, func(c asked) {
			p := begun(t, 100)
			for _, n := range numbers {
				p.num(n, 1)
			}
			p.ask(c)
		})
	}
	eachTerm(parX, []int{parA, parB}, func(c asked) {
		lines := table(c.name, c.k)
		for skip := range len(lines) + 1 {
			p := begun(t, 100)
			for _, m := range []*tape.Maker{p.put, p.plain} {
				at := c.named()
				for _, text := range lines[:skip] {
					if _, e := line(m, text, c.k, at); e != api.OK {
						t.Fatal(e)
					}
				}
				m.Two(api.NdDiv, three, half)
			}
			p.ask(c)
		}
	})
}

// P21.1, P21.2: each step of a term by itself is there, as far as it is of what is handed over, or of one number.
func TestSomeThere(t *testing.T) {
	eachTerm(parX, []int{parA, parB}, func(c asked) {
		for _, text := range table(c.name, c.k) {
			p := begun(t, 100)
			for _, m := range []*tape.Maker{p.put, p.plain} {
				at := c.named()
				at["one"], at["two"], at["zero"] = must(m.Num(ratio(1, 1))), must(m.Num(ratio(2, 1))), must(m.Num(ratio(0, 1)))
				if slices.ContainsFunc(strings.Fields(text)[3:], func(s string) bool { _, is := at[s]; return !is }) {
					continue
				}
				line(m, text, c.k, at)
			}
			p.ask(c)
		}
	})
}

// P21.1, P21.2: the same terms again, terms that share arguments, and terms of terms.
func TestSeveral(t *testing.T) {
	p := begun(t, mostNodes)
	all := [][3]int{{parX, parA, parB}, {parX, parB, parA}, {parA, parA, parB}, {others, parA, parB}, {parX, three, half}, {three, half, half}}
	for _, l := range all {
		eachTerm(l[0], l[1:], func(c asked) { p.ask(c) })
	}
	n := p.put.Len()
	for _, l := range slices.Backward(all) {
		eachTerm(l[0], l[1:], func(c asked) { p.ask(c) })
	}
	if p.put.Len() != n {
		t.Errorf("%d steps, and then %d", n, p.put.Len())
	}
	last := parX
	for range 3 {
		eachTerm(parX, []int{parA, parB}, func(c asked) {
			if i, e := p.ask(c); e == api.OK {
				eachTerm(last, []int{i, i}, func(c asked) { p.ask(c) })
				last = i
			}
		})
	}
}

// noNames are no distribution's.
func noNames() []string {
	l := []string{
		"", " ", "\x00", "\xff", "x", "log", "normal_", "_normal", "norm", "norma", "normal2", "student", "bernouilli", "binomial", "poisson log", "poisson-log",
		"poisson_logit", "bernoulli_log", "logit", "log_normal", "exp", "expo", "betta", "uniforme", "cauchy\n", "normal\x00", "нормаль", strings.Repeat("normal", 100000),
	}
	for _, name := range slices.Concat(termNames(), countNames()) {
		l = append(l, strings.ToUpper(name), strings.ToUpper(name[:1])+name[1:], name[:1]+strings.ToUpper(name[1:2])+name[2:],
			" "+name, name+" ", name[:1]+" "+name[1:], "\t"+name, name[1:], name[:len(name)-1], name+name)
	}
	return l
}

// P21.1, P21.2: ErrName for what is no distribution of that kind, whatever else is handed over.
func TestNames(t *testing.T) {
	p := begun(t, begunSteps)
	want := madeBy(p.put)
	check := func(isCount bool, name string) {
		for _, args := range [][]int{nil, {}, {parA}, {parA, parB}, {parA, parB, parB}, {-1}, {begunSteps, 99}} {
			for _, i := range []int{parX, -1, begunSteps} {
				c := asked{isCount, name, i, int64(i), args}
				c.is(t, "no name", p.put, 0, api.ErrName)
			}
		}
	}
	for _, name := range noNames() {
		check(false, name)
		check(true, name)
	}
	for _, name := range termNames() {
		check(true, name)
	}
	for _, name := range countNames() {
		check(false, name)
	}
	if !tape.Same(madeBy(p.put), want) {
		t.Errorf("made is %s", shownTape(madeBy(p.put)))
	}
	eachTerm(parX, []int{parA, parB}, func(c asked) { p.ask(c) })
}

// P21.1, P21.2: ErrArg for another number of arguments.
func TestNumbersOfArguments(t *testing.T) {
	p := begun(t, begunSteps)
	want := madeBy(p.put)
	lists := [][]int{nil, {}, {parA}, {parA, parB}, {parA, parB, parB}, {parA, parA, parA, parA}, make([]int, 255), make([]int, 256), make([]int, 257), make([]int, 1<<20), make([]int, 1<<20+1)}
	for _, l := range lists {
		for name, args := range argsOf(false) {
			if len(l) != args {
				term(name, parX, l...).is(t, "another number", p.put, 0, api.ErrArg)
				term(name, -1, l...).is(t, "another number, and no x", p.put, 0, api.ErrArg)
			}
		}
		for name, args := range argsOf(true) {
			for _, k := range farCounts() {
				if len(l) != args {
					count(name, k, l...).is(t, "another number", p.put, 0, api.ErrArg)
				}
			}
		}
	}
	if !tape.Same(madeBy(p.put), want) {
		t.Errorf("made is %s", shownTape(madeBy(p.put)))
	}
}

// noSteps are no indices where there are so many steps.
func noSteps(n int) []int {
	return append([]int{-1, -2, n, n + 1, n + 20, -n, mostNodes}, farIntegers()...)
}

// P21.1, P21.2: ErrArg for each of x, a and b that is no step, and several of them, and nothing is made, whatever the budget.
func TestIndices(t *testing.T) {
	for _, budget := range []int{begunSteps, begunSteps + 1, 100} {
		p := begun(t, budget)
		want := madeBy(p.put)
		for _, i := range noSteps(begunSteps) {
			for _, l := range [][3]int{{i, parA, parB}, {parX, i, parB}, {parX, parA, i}, {i, i, parB}, {parX, i, i}, {i, i, i}} {
				eachTerm(l[0], l[1:], func(c asked) {
					if slices.Contains(c.steps(), i) {
						c.is(t, "no step", p.put, 0, api.ErrArg)
					}
				})
			}
		}
		for _, k := range farCounts() {
			for _, name := range countNames() {
				count(name, k, begunSteps).is(t, "no step", p.put, 0, api.ErrArg)
				count(name, k, -1).is(t, "no step", p.put, 0, api.ErrArg)
			}
		}
		if !tape.Same(madeBy(p.put), want) {
			t.Errorf("made is %s", shownTape(madeBy(p.put)))
		}
		eachTerm(parX, []int{parA, parB}, func(c asked) { p.ask(c) })
	}
}

// P21.1, P21.2: the last step is one, and the one that the term is about to make is none.
func TestLastStep(t *testing.T) {
	for _, l := range [][3]int{{others, parA, parB}, {parX, others, parB}, {parX, parA, others}, {others, others, others}} {
		eachTerm(l[0], l[1:], func(c asked) {
			p := begun(t, 100)
			if _, e := p.ask(c); e != api.OK {
				t.Errorf("%s: error %d", c.shown(), e)
			}
		})
	}
	eachTerm(begunSteps, []int{begunSteps, begunSteps}, func(c asked) {
		p := begun(t, 100)
		if _, e := p.ask(c); e != api.ErrArg || p.put.Len() != begunSteps {
			t.Errorf("%s: error %d, %d steps", c.shown(), e, p.put.Len())
		}
	})
}

// P21.1, P21.2: ErrNil comes before all else.
func TestNoMaker(t *testing.T) {
	refused, _ := tape.New(0)
	for _, m := range []*tape.Maker{nil, new(tape.Maker), refused} {
		for _, name := range slices.Concat(termNames(), countNames(), noNames()[:20]) {
			for _, args := range [][]int{nil, {}, {0}, {0, 0}, {0, 0, 0}, {-1, 7}} {
				for _, i := range []int{-1, 0, 1, 2, 5} {
					term(name, i, args...).is(t, "no maker", m, 0, api.ErrNil)
					count(name, int64(i), args...).is(t, "no maker", m, 0, api.ErrNil)
				}
			}
		}
	}
}

// P21.1, P21.2: a maker without steps has no x, and no arguments.
func TestNoSteps(t *testing.T) {
	m := newMaker(t, 10)
	for _, i := range noSteps(0) {
		eachTerm(i, []int{i, i}, func(c asked) { c.is(t, "no steps", m, 0, api.ErrArg) })
	}
	term("norma", 0, 0, 0).is(t, "no steps", m, 0, api.ErrName)
	if m.Len() != 0 {
		t.Errorf("made is %s", shownTape(madeBy(m)))
	}
}

// P21.1, P21.2: where several errors apply: ErrName, ErrArg, ErrBudget.
func TestOrderOfErrors(t *testing.T) {
	p := begun(t, begunSteps)
	term("bernoulli", -1).is(t, "all three", p.put, 0, api.ErrName)
	count("normal", 0).is(t, "all three", p.put, 0, api.ErrName)
	term("norma", parX, parA, parB).is(t, "a name, and no room", p.put, 0, api.ErrName)
	eachTerm(parX, []int{parA, parB}, func(c asked) {
		c.is(t, "no room", p.put, 0, api.ErrBudget)
		c.args = append(c.args, parA)
		c.is(t, "another number, and no room", p.put, 0, api.ErrArg)
		c.args = []int{}
		c.is(t, "another number, and no room", p.put, 0, api.ErrArg)
	})
	eachTerm(-1, []int{-1, -1}, func(c asked) { c.is(t, "no step, and no room", p.put, 0, api.ErrArg) })
	isMade(t, "no room", p.put, 3, madeBy(p.plain).Nodes...)
}

// P21.1, P21.2: budgets that are just enough, and each smaller one. What was made before the error stays, and the maker goes on.
func TestBudgets(t *testing.T) {
	for _, l := range [][3]int{{parX, parA, parB}, {others, three, half}, {parA, parA, parA}} {
		eachTerm(l[0], l[1:], func(c asked) {
			roomy := begun(t, 100)
			roomy.ask(c)
			all := madeBy(roomy.put).Nodes
			for budget := begunSteps; budget <= len(all)+1; budget++ {
				p := begun(t, budget)
				i, e := p.ask(c)
				want := api.ErrBudget
				if budget >= len(all) {
					want = api.OK
				}
				if e != want || e != api.OK && i != 0 {
					t.Errorf("%s with the budget %d = %s", c.shown(), budget, shownAnswer(i, e))
				}
				isMade(t, "with the budget "+strconv.Itoa(budget), p.put, 3, all[:min(budget, len(all))]...)
				p.par()
				p.num(0, 1)
				p.num(1, 1)
				p.one(api.NdLog, parA)
				p.two(api.NdSub, parX, parA)
				eachTerm(parX, []int{parB, parA}, func(c asked) { p.ask(c) })
				p.ask(c)
			}
		})
	}
}

// P21.1, P21.2: budgets that suffice because steps are there.
func TestBudgetsThere(t *testing.T) {
	for budget := begunSteps + 3; budget < 45; budget++ {
		p := begun(t, budget)
		p.num(2, 1)
		p.num(0, 1)
		p.num(1, 1)
		for range 2 {
			eachTerm(parX, []int{parA, parB}, func(c asked) { p.ask(c) })
			eachTerm(parX, []int{parA, half}, func(c asked) { p.ask(c) })
		}
	}
	eachTerm(parX, []int{parA, parB}, func(c asked) {
		roomy := begun(t, 100)
		last, _ := roomy.ask(c)
		n := roomy.put.Len()
		for range 2 {
			p := begun(t, n)
			p.ask(c)
			p.par()
			if i, e := p.ask(c); i != last || e != api.OK || p.put.Len() != n {
				t.Errorf("%s again = %s", c.shown(), shownAnswer(i, e))
			}
		}
	})
}

// P21.1, P21.2: makers that are as great as can be.
func TestGreat(t *testing.T) {
	for _, room := range []int{0, 1, 5, 13, 14} {
		great := newPair(t, mostNodes)
		for range mostPars {
			great.par()
		}
		last := mostPars - 1
		for great.put.Len() < mostNodes-room {
			last = great.one(api.NdExp, last)
		}
		c := oneOf(rand.New(rand.NewPCG(21, uint64(room))), term("beta", last, 0, last-1), term("gamma", 0, last, 1), term("lognormal", last-1, 1, last))
		great.ask(c)
		great.ask(term("normal", last+1, 0, 1))
		great.ask(count("bernoulli", 1, last))
	}
}

// anyMaker does anything to both makers.
func anyMaker(t *testing.T, g *rand.Rand, budget int) pair {
	p := newPair(t, budget)
	for range 1 + g.IntN(20) {
		n := max(p.put.Len(), 1)
		switch g.IntN(4) {
		case 0:
			p.par()
		case 1:
			p.num(g.Int64N(5)-1, 1+g.Int64N(2))
		case 2:
			p.one(oneOf(g, opsOfOne()...), g.IntN(n))
		default:
			p.two(oneOf(g, opsOfTwo()...), g.IntN(n), g.IntN(n))
		}
	}
	return p
}

// anyIndex is mostly that of a step.
func anyIndex(g *rand.Rand, n int) int {
	if g.IntN(20) == 0 {
		return oneOf(g, noSteps(n)...)
	}
	return g.IntN(max(n, 1))
}

func anyName(g *rand.Rand, isCount bool) string {
	if g.IntN(12) == 0 {
		return oneOf(g, slices.Concat(noNames()[:12], termNames(), countNames())...)
	}
	if isCount {
		return oneOf(g, countNames()...)
	}
	return oneOf(g, termNames()...)
}

func anyCall(g *rand.Rand, n int) asked {
	c := asked{isCount: g.IntN(2) == 0, x: anyIndex(g, n), k: oneOf(g, farCounts()...)}
	if g.IntN(2) == 0 {
		c.k = g.Int64N(2)
	}
	c.name = anyName(g, c.isCount)
	args := argsOf(c.isCount)[c.name]
	if g.IntN(15) == 0 {
		args = g.IntN(5)
	}
	for range args {
		c.args = append(c.args, anyIndex(g, n))
	}
	return c
}

// P21.1, P21.2: random makers, budgets, names, arguments and rows of terms.
func TestAny(t *testing.T) {
	g := rand.New(rand.NewPCG(21, 1))
	met := map[string]int{}
	for range 6000 {
		p := anyMaker(t, g, 1+g.IntN(60))
		for range 1 + g.IntN(6) {
			n := p.put.Len()
			c := anyCall(g, n)
			_, e := p.ask(c)
			met[strconv.Itoa(int(e))+" "+c.name]++
			p.par()
			p.one(oneOf(g, opsOfOne()...), g.IntN(max(n, 1)))
		}
	}
	for _, e := range []api.Errno{api.OK, api.ErrName, api.ErrArg, api.ErrBudget} {
		for _, name := range slices.Concat(termNames(), countNames()) {
			if what := strconv.Itoa(int(e)) + " " + name; met[what] < 10 {
				t.Errorf("only %d of %s", met[what], what)
			}
		}
	}
}
