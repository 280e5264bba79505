package elab_test

import (
	"math/big"
	"math/rand/v2"
	"strconv"
	"testing"

	"stepstone/api"
	"stepstone/bind"
	"stepstone/elab"
	"stepstone/fore"
	"stepstone/kind"
	"stepstone/tape"
)

// isModel checks what Build returns with so great a budget.
func isModel(t *testing.T, p api.Prog, data []api.Datum, budget int) (api.Tape, api.Fault) {
	t.Helper()
	x, f := elab.Build(p, data, budget)
	want, g := modelOf(p, data, budget)
	if f != g || !tape.Same(x, want) {
		t.Fatalf("%s; %s; %d: %s, %s\nwant %s, %s", shownTree(p), shownData(data), budget, shownFault(f), shownTape(x), shownFault(g), shownTape(want))
	}
	return x, f
}

// P22.1: random programs, most of them without a fault, and many with one, with every budget, or with some of them.
func TestAnyProgram(t *testing.T) {
	g := rand.New(rand.NewPCG(22, 1))
	faults := map[api.Errno]int{}
	const rounds = 2000
	for i := range rounds {
		m := newMaker(g, oneOf(g, 0, 0, 200, 50, 20))
		p, data := m.prog()
		if f := kind.Check(p); f != (api.Fault{}) {
			t.Fatalf("%s is not valid: %s", shownTree(p), shownFault(f))
		}
		x, f := isModel(t, p, data, mostNodes)
		faults[f.E]++
		n := len(x.Nodes)
		for budget := 1; budget < n; budget++ {
			if i%10 == 0 || g.IntN(n) < 3 {
				if _, f := isModel(t, p, data, budget); f.E != api.ErrBudget {
					t.Fatalf("%s; %s: %d of %d steps: %s", shownTree(p), shownData(data), budget, n, shownFault(f))
				}
			}
		}
		if n > 0 {
			if y, f := isModel(t, p, data, n); f != (api.Fault{}) || !tape.Same(x, y) {
				t.Fatalf("%s; %s: all %d steps: %s", shownTree(p), shownData(data), n, shownFault(f))
			}
		}
	}
	t.Log(faults)
	if faults[api.OK] < rounds/2 || faults[api.ErrRange] < rounds/50 || faults[api.ErrUnset] < rounds/100 {
		t.Errorf("the programs have faults %v", faults)
	}
}

// elements is how many a block's variables have, by the size that each declaration has in the end.
func elements(t *testing.T, p api.Prog, data []api.Datum) int {
	t.Helper()
	sizes := 0
	for _, d := range p.Blocks[api.BkPars].Decls {
		n := 1
		if len(d.Size) > 0 {
			// The size as a term of the target: it is a number that can be read off a tape.
			q := p
			q.Blocks[api.BkPars], q.Blocks[api.BkTurned], q.Blocks[api.BkGenerated] = api.Block{}, api.Block{}, api.Block{}
			q.Blocks[api.BkModel] = api.Block{Is: true, Stmts: []api.Stmt{{Op: api.StAdd, Kids: d.Size}}}
			x, f := elab.Build(q, data, mostNodes)
			if f != (api.Fault{}) {
				return -1
			}
			n = int(bigOf(x.Nodes[x.Nodes[x.Out].B].C.N).Int64())
		}
		sizes += n
	}
	return sizes
}

// P22.3: tapes are valid, and have as many parameters as there are elements; data make none.
func TestParametersCount(t *testing.T) {
	g := rand.New(rand.NewPCG(22, 2))
	counted := 0
	for range 3000 {
		p, data := newMaker(g, 0).prog()
		x, f := elab.Build(p, data, mostNodes)
		if f != (api.Fault{}) {
			continue
		}
		n := elements(t, p, data)
		if tape.Check(x) != api.OK || n >= 0 && x.Pars != n {
			t.Fatalf("%s; %s: %d elements, %s", shownTree(p), shownData(data), n, shownTape(x))
		}
		if n >= 0 {
			counted++
		}
		p.Blocks[api.BkPars] = api.Block{}
		for i := api.BkTurned; i <= api.BkGenerated; i++ {
			p.Blocks[i] = api.Block{}
		}
		if x, f := elab.Build(p, data, mostNodes); f != (api.Fault{}) || x.Pars != 0 {
			t.Fatalf("%s: %s, %d parameters", shownTree(p), shownFault(f), x.Pars)
		}
	}
	if counted < 1500 {
		t.Errorf("only %d programs were counted", counted)
	}
}

// with is an expression with a numeral in a name's place.
func with(l []api.Expr, s string, n int64) []api.Expr {
	var out []api.Expr
	for _, e := range l {
		if e.Op == api.ExName && e.Name == s {
			e.Op, e.Name = api.ExNum, strconv.FormatInt(n, 10)
		}
		e.Kids = with(e.Kids, s, n)
		out = append(out, e)
	}
	return out
}

func withAll(l []api.Stmt, s string, n int64) []api.Stmt {
	var out []api.Stmt
	for _, one := range l {
		one.Kids, one.Body, one.Else = with(one.Kids, s, n), withAll(one.Body, s, n), withAll(one.Else, s, n)
		out = append(out, one)
	}
	return out
}

// flat has neither loops, nor choices, nor blocks: these are replaced as P22.4 says. It needs comparisons and loops that layer 16 can compute by data alone.
func flat(t *testing.T, l []api.Stmt, values []api.Value) []api.Stmt {
	t.Helper()
	come := func(e api.Expr) int64 {
		v, f := bind.Come(e, values)
		if f != (api.Fault{}) {
			t.Fatalf("%v does not come to an integer: %s", e, shownFault(f))
		}
		return v.Ints[0]
	}
	var out []api.Stmt
	for _, s := range l {
		switch s.Op {
		case api.StFor:
			for n := come(s.Kids[0]); n <= come(s.Kids[1]); n++ {
				out = append(out, flat(t, withAll(s.Body, s.Name, n), values)...)
			}
		case api.StIf:
			c := s.Kids[0]
			if holds(c.Op, come(c.Kids[0]), come(c.Kids[1])) {
				out = append(out, flat(t, s.Body, values)...)
			} else {
				out = append(out, flat(t, s.Else, values)...)
			}
		case api.StBlock:
			out = append(out, flat(t, s.Body, values)...)
		default:
			out = append(out, s)
		}
	}
	return out
}

// P22.4: a loop makes the same tape as its Bodies, a choice that of its Body or its Else, braces nothing. (The faults are the same ones, too.)
func TestFlat(t *testing.T) {
	g := rand.New(rand.NewPCG(22, 3))
	differ := 0
	for i := range 4000 {
		m := newMaker(g, 0)
		m.closed = true
		p, data := m.prog()
		q := p
		values, f := bind.Bind(p, data)
		if f != (api.Fault{}) {
			continue
		}
		for j := range q.Blocks {
			q.Blocks[j].Stmts = flat(t, p.Blocks[j].Stmts, values)
			if len(q.Blocks[j].Stmts) != len(p.Blocks[j].Stmts) {
				differ++
			}
		}
		budget := mostNodes
		if i%2 == 1 {
			budget = 1 + g.IntN(60)
		}
		x, f := elab.Build(p, data, budget)
		y, h := elab.Build(q, data, budget)
		if f != h || !tape.Same(x, y) {
			t.Fatalf("%s; %s; %d: %s, %s\n%s: %s, %s", shownTree(p), shownData(data), budget, shownFault(f), shownTape(x), shownTree(q), shownFault(h), shownTape(y))
		}
	}
	if differ < 2000 {
		t.Errorf("only %d blocks were changed", differ)
	}
}

// P22.4: by sources, with all kinds of statements in loops.
func TestLoopsByHand(t *testing.T) {
	const head = "data { vector[3] y; array[3] int k; } transformed data { array[3] int s; vector[3] u; "
	const between = "} parameters { vector[3] x; } model { "
	const data = "y = [1.5, 2.5, -3]; k = [0, 1, 4];"
	for _, c := range []struct{ setLoop, setFlat, loop, flat string }{
		{"for (i in 1 : 3) { s[i] = k[i] * i; u[i] = y[4 - i] / i; }", "s[1] = k[1] * 1; u[1] = y[4 - 1] / 1; s[2] = k[2] * 2; u[2] = y[4 - 2] / 2; s[3] = k[3] * 3; u[3] = y[4 - 3] / 3;", "for (i in 2 : 3) { x[i] ~ normal(u[i], i); }", "x[2] ~ normal(u[2], 2); x[3] ~ normal(u[3], 3);"},
		{"s[1] = 1; for (i in 2 : 3) { s[i] = s[i - 1] * i; }", "s[1] = 1; s[2] = s[2 - 1] * 2; s[3] = s[3 - 1] * 3;", "for (i in 1 : 2) { k[i] ~ poisson(exp(x[i]) * i); target += i * x[s[i]]; }", "k[1] ~ poisson(exp(x[1]) * 1); target += 1 * x[s[1]]; k[2] ~ poisson(exp(x[2]) * 2); target += 2 * x[s[2]];"},
		{"", "", "for (i in 1 : 2) { for (j in i : 2) { if (i == j) { target += x[i]; } else { { target += x[j] * i; } } } }", "target += x[1]; target += x[2] * 1; target += x[2];"},
		{"", "", "for (i in 3 : 2) { target += x[i]; } target += 2;", "target += 2;"},
	} {
		areSame(t, head+c.setLoop+between+c.loop+" }", head+c.setFlat+between+c.flat+" }", data)
	}
}

// interval is bounds as rational numbers.
type interval struct{ low, top *big.Rat }

func (a interval) plus(b interval) interval {
	return interval{new(big.Rat).Add(a.low, b.low), new(big.Rat).Add(a.top, b.top)}
}

func (a interval) minus(b interval) interval {
	return interval{new(big.Rat).Sub(a.low, b.top), new(big.Rat).Sub(a.top, b.low)}
}

func (a interval) meets(b interval) bool {
	return a.low.Cmp(b.top) <= 0 && b.low.Cmp(a.top) <= 0
}

func intervalOf(v api.Ivl) interval { return interval{ratOf(v.Lo), ratOf(v.Hi)} }

// P22.5: of two lists of statements, one behind the other, the target is the sum, less what no statements make.
func TestSum(t *testing.T) {
	g := rand.New(rand.NewPCG(22, 4))
	some, none := 0, 0
	for range 3000 {
		m := newMaker(g, 0)
		p, data := m.prog()
		l := p.Blocks[api.BkModel].Stmts
		if len(l) < 2 {
			continue
		}
		cut := g.IntN(len(l) + 1)
		var known []api.Ivl
		var q []api.Dyad
		for i, stmts := range [][]api.Stmt{l, l[:cut], l[cut:], nil} {
			p.Blocks[api.BkModel].Stmts = stmts
			x, f := elab.Build(p, data, mostNodes)
			if f != (api.Fault{}) {
				break
			}
			for i == 0 && len(q) < x.Pars {
				q = append(q, point(1, g.Int64N(7)-3)...)
			}
			v, e := fore.At(x, q, 2)
			if e != api.OK {
				t.Fatalf("At of %s: error %d", shownTape(x), e)
			}
			known = append(known, v)
		}
		if len(known) < 4 {
			continue
		}
		isSome, isUndef := true, false
		for i, v := range known {
			isSome = isSome && v.Kind == api.IvSome
			isUndef = isUndef || i > 0 && v.Kind == api.IvUndef
		}
		switch {
		case isSome:
			some++
			if a, b := intervalOf(known[0]), intervalOf(known[1]).plus(intervalOf(known[2])).minus(intervalOf(known[3])); !a.meets(b) {
				t.Fatalf("%s cut at %d: %v", shownTree(p), cut, known)
			}
		case isUndef:
			none++
			if known[0].Kind == api.IvSome {
				t.Fatalf("%s cut at %d: %v", shownTree(p), cut, known)
			}
		}
	}
	t.Log(some, none)
	if some < 50 || none < 100 {
		t.Errorf("%d were compared, %d had no value", some, none)
	}
}
