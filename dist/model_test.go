package dist_test

import (
	"strconv"
	"strings"
	"testing"

	"stepstone/api"
	"stepstone/tape"
)

// argsOf are how many arguments each distribution has, for those that are discrete and for the others.
func argsOf(isCount bool) map[string]int {
	if isCount {
		return map[string]int{"bernoulli": 1, "bernoulli_logit": 1, "poisson": 1, "poisson_log": 1}
	}
	return map[string]int{"normal": 2, "lognormal": 2, "cauchy": 2, "exponential": 1, "gamma": 2, "beta": 2, "uniform": 2}
}

func termNames() []string {
	return []string{"normal", "lognormal", "cauchy", "exponential", "gamma", "beta", "uniform"}
}

func countNames() []string {
	return []string{"bernoulli", "bernoulli_logit", "poisson", "poisson_log"}
}

// table has the chapter's rows, a step a line, in the order in which they are made; the last line's is the term.
func table(name string, k int64) []string {
	switch name {
	case "normal":
		return []string{
			"from = sub x a", "z = div from b",
			"square = mul z z", "two = num 2", "half = div square two", "minus = neg half",
			"logb = log b", "term = sub minus logb",
		}
	case "lognormal":
		return []string{
			"l = log x",
			"from = sub l a", "z = div from b",
			"square = mul z z", "two = num 2", "half = div square two", "minus = neg half",
			"logb = log b", "less = sub minus logb",
			"term = sub less l",
		}
	case "cauchy":
		return []string{
			"from = sub x a", "z = div from b",
			"one = num 1", "square = mul z z", "more = add one square", "logm = log more", "minus = neg logm",
			"logb = log b", "term = sub minus logb",
		}
	case "exponential":
		return []string{"there = need x", "loga = log a", "ax = mul a x", "rest = sub loga ax", "term = add there rest"}
	case "gamma":
		return []string{
			"there = need a",
			"logb = log b", "alogb = mul a logb", "first = add there alogb",
			"one = num 1", "less = sub a one", "logx = log x", "power = mul less logx", "second = add first power",
			"bx = mul b x", "term = sub second bx",
		}
	case "beta":
		return []string{
			"thereA = need a",
			"thereB = need b", "there = add thereA thereB",
			"one = num 1", "lessA = sub a one", "logx = log x", "powerX = mul lessA logx", "first = add there powerX",
			"lessB = sub b one", "y = sub one x", "logy = log y", "powerY = mul lessB logy", "term = add first powerY",
		}
	case "uniform":
		return []string{
			"above = sub x a", "thereA = need above",
			"below = sub b x", "thereB = need below", "there = add thereA thereB",
			"width = sub b a", "logw = log width", "term = sub there logw",
		}
	}
	return countTable(name, k)
}

func countTable(name string, k int64) []string {
	which := name
	if k == 0 || k == 1 {
		which += " " + strconv.FormatInt(k, 10)
	}
	switch {
	case which == "bernoulli 1":
		return []string{"loga = log a", "one = num 1", "rest = sub one a", "there = need rest", "term = add loga there"}
	case which == "bernoulli 0":
		return []string{"one = num 1", "rest = sub one a", "logr = log rest", "there = need a", "term = add logr there"}
	case which == "bernoulli_logit 1":
		return []string{"one = num 1", "minus = neg a", "power = exp minus", "more = add one power", "logm = log more", "term = neg logm"}
	case which == "bernoulli_logit 0":
		return []string{"one = num 1", "power = exp a", "more = add one power", "logm = log more", "term = neg logm"}
	case name == "poisson" && k >= 0:
		return []string{"times = num k", "loga = log a", "product = mul times loga", "term = sub product a"}
	case name == "poisson_log" && k >= 0:
		return []string{"times = num k", "product = mul times a", "power = exp a", "term = sub product power"}
	}
	return []string{"zero = num 0", "term = need zero"}
}

func opOf(name string) uint8 {
	switch name {
	case "add":
		return api.NdAdd
	case "sub":
		return api.NdSub
	case "mul":
		return api.NdMul
	case "div":
		return api.NdDiv
	case "neg":
		return api.NdNeg
	case "exp":
		return api.NdExp
	case "log":
		return api.NdLog
	case "need":
		return api.NdNeed
	}
	panic(name + " is no Op")
}

// line makes the step that a line tells of, and gives it its name.
func line(m *tape.Maker, text string, k int64, at map[string]int) (int, api.Errno) {
	words := strings.Fields(text)
	step := func(name string) int {
		i, is := at[name]
		if !is {
			panic(text + ": " + name + " is not there")
		}
		return i
	}
	var i int
	var e api.Errno
	switch {
	case words[2] == "num" && words[3] == "k":
		i, e = m.Num(ratio(k, 1))
	case words[2] == "num":
		n, _ := strconv.ParseInt(words[3], 10, 64)
		i, e = m.Num(ratio(n, 1))
	case len(words) == 4:
		i, e = m.One(opOf(words[2]), step(words[3]))
	default:
		i, e = m.Two(opOf(words[2]), step(words[3]), step(words[4]))
	}
	at[words[0]] = i
	return i, e
}

// named are the steps that a call hands over.
func (c asked) named() map[string]int {
	at := map[string]int{"x": c.x}
	for i, a := range c.args {
		at[string(rune('a'+i))] = a
	}
	return at
}

// byHand makes a term by a plain row of calls. It needs a maker.
func (c asked) byHand(m *tape.Maker) (last int, e api.Errno) {
	args, is := argsOf(c.isCount)[c.name]
	if !is {
		return 0, api.ErrName
	}
	if len(c.args) != args {
		return 0, api.ErrArg
	}
	for _, i := range c.steps() {
		if i < 0 || i >= m.Len() {
			return 0, api.ErrArg
		}
	}
	at := c.named()
	for _, text := range table(c.name, c.k) {
		if last, e = line(m, text, c.k, at); e != api.OK {
			return 0, e
		}
	}
	return last, api.OK
}

// pair are two makers to which the same is done, but that terms are asked of the one, and made by hand in the other.
type pair struct {
	t          *testing.T
	put, plain *tape.Maker
}

func newPair(t *testing.T, budget int) pair {
	t.Helper()
	return pair{t, newMaker(t, budget), newMaker(t, budget)}
}

// agree checks that a call did the same to both.
func (p pair) agree(what string, call func(m *tape.Maker) (int, api.Errno)) int {
	p.t.Helper()
	i, e := call(p.put)
	if k, f := call(p.plain); i != k || e != f || p.put.Len() != p.plain.Len() {
		p.t.Fatalf("%s = %s, but %s where terms are made by hand: %s", what, shownAnswer(i, e), shownAnswer(k, f), shownTape(madeBy(p.plain)))
	}
	return i
}

func (p pair) par() int {
	p.t.Helper()
	return p.agree("Par", func(m *tape.Maker) (int, api.Errno) { return m.Par() })
}

func (p pair) num(n, d int64) int {
	p.t.Helper()
	return p.agree("Num", func(m *tape.Maker) (int, api.Errno) { return m.Num(ratio(n, d)) })
}

func (p pair) one(op uint8, a int) int {
	p.t.Helper()
	return p.agree("One", func(m *tape.Maker) (int, api.Errno) { return m.One(op, a) })
}

func (p pair) two(op uint8, a, b int) int {
	p.t.Helper()
	return p.agree("Two", func(m *tape.Maker) (int, api.Errno) { return m.Two(op, a, b) })
}

// ask does so twice, and holds what was returned and what was made against what is made by hand.
func (p pair) ask(c asked) (i int, e api.Errno) {
	p.t.Helper()
	for range 2 {
		before := p.put.Len()
		i, e = c.call(p.put)
		want, f := c.byHand(p.plain)
		if i != want || e != f {
			p.t.Fatalf("%s, with %d steps of %s = %s, want %s", c.shown(), before, shownTape(madeBy(p.plain)), shownAnswer(i, e), shownAnswer(want, f))
		}
		if p.put.Len() != p.plain.Len() || p.put.Len() > 0 && !tape.Same(madeBy(p.put), madeBy(p.plain)) {
			p.t.Fatalf("%s, with %d steps, made %s, want %s", c.shown(), before, shownTape(madeBy(p.put)), shownTape(madeBy(p.plain)))
		}
	}
	return i, e
}
