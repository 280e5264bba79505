package dist_test

import (
	"math/big"
	"math/rand/v2"
	"slices"
	"strings"
	"testing"

	"stepstone/api"
	"stepstone/tape"
)

// ask needs a maker with room, and steps of it.
func ask(t *testing.T, m *tape.Maker, c asked) int {
	t.Helper()
	i, e := c.call(m)
	if e != api.OK {
		t.Fatalf("%s in %s: error %d", c.shown(), shownTape(madeBy(m)), e)
	}
	return i
}

// holds checks that nothing wrong is known of a step that has a value, at levels of all kinds, and that it is known to so many bits at the last one.
func holds(t *testing.T, what string, m *tape.Maker, i int, q []api.Dyad, want *big.Rat, bits int) {
	t.Helper()
	for _, level := range []int{0, 1, 5, mostLevel} {
		a := known(t, m, i, q, level)
		if a.Kind == api.IvUndef || a.Kind == api.IvSome && !has(a, want) || level == mostLevel && bits > 0 && !isIn(a, want, bits) {
			t.Errorf("%s at %s, level %d: %s, want %s", what, shownPoint(q), level, shown(a), want.FloatString(30))
		}
	}
}

// both is e to the power of the terms of 0 and of 1, added up.
func both(t *testing.T, m *tape.Maker, name string, a int) int {
	t.Helper()
	zero, one := ask(t, m, count(name, 0, a)), ask(t, m, count(name, 1, a))
	return must(m.Two(api.NdAdd, must(m.One(api.NdExp, zero)), must(m.One(api.NdExp, one))))
}

// P21.3: the shares of 0 and 1 add up to 1, for arguments of small and great size.
func TestBothBernoulli(t *testing.T) {
	m := newMaker(t, 100)
	sum := both(t, m, "bernoulli", must(m.Par()))
	for _, q := range nums("1p-1", "1p-2", "3p-2", "1p-10", "1p-50", "1p-1000", "3p-3990", "1+-1p-10", "1+-1p-50", "1+-3p-900", "1+-1p-3000", "12345p-20") {
		holds(t, "bernoulli", m, sum, []api.Dyad{q}, big.NewRat(1, 1), 900)
	}
	for _, q := range nums("1p-5000", "1p-100000", "1+-1p-4500") {
		holds(t, "bernoulli", m, sum, []api.Dyad{q}, big.NewRat(1, 1), 0)
	}
	m = newMaker(t, 100)
	sum = both(t, m, "bernoulli_logit", must(m.Par()))
	for _, q := range nums("0", "1", "-1", "5p-1", "-9p-2", "1p-50", "-1p-50", "1p-1000", "-1p-3000", "30", "-37", "700", "-700", "2000", "-2000", "20001p-3") {
		holds(t, "bernoulli_logit", m, sum, []api.Dyad{q}, big.NewRat(1, 1), 900)
	}
	for _, q := range nums("100000", "-100000", "1p17", "-1p17", "1p1000", "-1p1000", "1p-100000", "1p100000") {
		holds(t, "bernoulli_logit", m, sum, []api.Dyad{q}, big.NewRat(1, 1), 0)
	}
}

// P21.3: the same of numbers that are no dyadic ones, and of steps of others.
func TestBothOfSteps(t *testing.T) {
	m := newMaker(t, 1000)
	x := must(m.Par())
	half := must(m.Num(ratio(1, 2)))
	root := must(m.One(api.NdRoot, half))
	power := must(m.One(api.NdExp, must(m.One(api.NdNeg, must(m.Two(api.NdMul, x, x))))))
	for _, c := range []api.Frac{ratio(1, 3), ratio(2, 3), ratio(1, 1000003), ratio(1000002, 1000003)} {
		i := must(m.Num(c))
		holds(t, "a number", m, both(t, m, "bernoulli", i), nums("3"), big.NewRat(1, 1), 900)
		holds(t, "a number", m, both(t, m, "bernoulli_logit", i), nums("3"), big.NewRat(1, 1), 900)
	}
	for _, i := range []int{half, root, power} {
		holds(t, "a step", m, both(t, m, "bernoulli", i), nums("3"), big.NewRat(1, 1), 900)
		holds(t, "a step", m, both(t, m, "bernoulli_logit", i), nums("3"), big.NewRat(1, 1), 900)
	}
}

func plus(l ...*big.Rat) *big.Rat {
	out := new(big.Rat)
	for _, x := range l {
		out.Add(out, x)
	}
	return out
}

func minus(a, b *big.Rat) *big.Rat { return new(big.Rat).Sub(a, b) }

func times(a, b *big.Rat) *big.Rat { return new(big.Rat).Mul(a, b) }

func over(a, b *big.Rat) *big.Rat { return new(big.Rat).Quo(a, b) }

// bitsOf is about how many bits a number has in front.
func bitsOf(x *big.Rat) int { return max(0, x.Num().BitLen()-x.Denom().BitLen()+1) }

// anyNumber is of small or great size.
func anyNumber(g *rand.Rand) api.Dyad {
	m := big.NewInt(1 + g.Int64N(1<<oneOf(g, 1, 4, 20, 40)))
	return odd(m, g.IntN(121)-60)
}

func anySigned(g *rand.Rand) api.Dyad {
	x := anyNumber(g)
	x.M.Neg = g.IntN(2) == 0
	return x
}

// P21.3: two normal terms of one distribution.
func TestTwoNormal(t *testing.T) {
	g := rand.New(rand.NewPCG(21, 2))
	m := newMaker(t, 100)
	x, y, a, b := must(m.Par()), must(m.Par()), must(m.Par()), must(m.Par())
	apart := must(m.Two(api.NdSub, ask(t, m, term("normal", x, a, b)), ask(t, m, term("normal", y, a, b))))
	for i := range 400 {
		q := []api.Dyad{anySigned(g), anySigned(g), anySigned(g), anyNumber(g)}
		switch i % 8 {
		case 0:
			q[1] = q[0]
		case 1:
			q[2] = q[0]
		case 2:
			q[3] = num("1")
		}
		u, v := over(minus(ratOf(q[0]), ratOf(q[2])), ratOf(q[3])), over(minus(ratOf(q[1]), ratOf(q[2])), ratOf(q[3]))
		u, v = over(times(u, u), big.NewRat(2, 1)), over(times(v, v), big.NewRat(2, 1))
		holds(t, "two normal terms", m, apart, q, minus(v, u), 900-bitsOf(u)-bitsOf(v))
	}
}

// P21.3: the same with arguments that are numbers, no dyadic ones among them.
func TestTwoNormalOfNumbers(t *testing.T) {
	l := []*big.Rat{big.NewRat(-7, 3), big.NewRat(0, 1), big.NewRat(1, 3), big.NewRat(1000001, 7), big.NewRat(1, 1000003)}
	for _, a := range l {
		for _, b := range l[2:] {
			m := newMaker(t, 100)
			x, y := must(m.Par()), must(m.Num(fracOf(l[0])))
			args := []int{must(m.Num(fracOf(a))), must(m.Num(fracOf(b)))}
			apart := must(m.Two(api.NdSub, ask(t, m, term("normal", x, args...)), ask(t, m, term("normal", y, args...))))
			for _, q := range nums("0", "5", "-1p-100", "12345p30") {
				u, v := over(minus(ratOf(q), a), b), over(minus(l[0], a), b)
				u, v = over(times(u, u), big.NewRat(2, 1)), over(times(v, v), big.NewRat(2, 1))
				holds(t, "two normal terms", m, apart, []api.Dyad{q}, minus(v, u), 900-bitsOf(u)-bitsOf(v))
			}
		}
	}
}

// P21.3: two exponential terms of one distribution.
func TestTwoExponential(t *testing.T) {
	g := rand.New(rand.NewPCG(21, 3))
	m := newMaker(t, 100)
	x, y, a := must(m.Par()), must(m.Par()), must(m.Par())
	apart := must(m.Two(api.NdSub, ask(t, m, term("exponential", x, a)), ask(t, m, term("exponential", y, a))))
	for i := range 300 {
		q := []api.Dyad{anyNumber(g), anyNumber(g), anyNumber(g)}
		if i%8 == 0 {
			q[1] = q[0]
		}
		u, v := times(ratOf(q[2]), ratOf(q[0])), times(ratOf(q[2]), ratOf(q[1]))
		holds(t, "two exponential terms", m, apart, q, minus(v, u), 900-bitsOf(u)-bitsOf(v))
	}
	m = newMaker(t, 100)
	x, a = must(m.Par()), must(m.Num(ratio(22, 7)))
	apart = must(m.Two(api.NdSub, ask(t, m, term("exponential", x, a)), ask(t, m, term("exponential", a, a))))
	for _, q := range nums("1", "1p-100", "12345p30") {
		rate := big.NewRat(22, 7)
		holds(t, "two exponential terms", m, apart, []api.Dyad{q}, times(rate, minus(rate, ratOf(q))), 800)
	}
}

// isInside tells whether a point is in the open set where the density is not 0, and scales and rates are above 0.
func (c asked) isInside(x, a, b *big.Rat) bool {
	one := big.NewRat(1, 1)
	switch c.name {
	case "normal", "cauchy":
		return b.Sign() > 0
	case "lognormal":
		return x.Sign() > 0 && b.Sign() > 0
	case "exponential":
		return x.Sign() > 0 && a.Sign() > 0
	case "gamma":
		return x.Sign() > 0 && a.Sign() > 0 && b.Sign() > 0
	case "beta":
		return x.Sign() > 0 && x.Cmp(one) < 0 && a.Sign() > 0 && b.Sign() > 0
	case "uniform":
		return a.Cmp(x) < 0 && x.Cmp(b) < 0
	case "bernoulli":
		return (c.k == 0 || c.k == 1) && a.Sign() > 0 && a.Cmp(one) < 0
	case "bernoulli_logit":
		return c.k == 0 || c.k == 1
	case "poisson":
		return c.k >= 0 && a.Sign() > 0
	case "poisson_log":
		return c.k >= 0
	}
	panic(c.name + " is no distribution")
}

// rowsOf are all rows of the table, with more k than one of each.
func rowsOf(x, a, b int) []asked {
	var out []asked
	eachTerm(x, []int{a, b}, func(c asked) { out = append(out, c) })
	for _, name := range countNames() {
		out = append(out, count(name, 17, a), count(name, -5, a), count(name, 1<<40, a))
	}
	return out
}

// freePoints are points of x, a and b as far as a row depends on them: what it does not depend on is 1.
func (c asked) freePoints(l []api.Dyad, call func(q []api.Dyad)) {
	some := func(is bool) []api.Dyad {
		if is {
			return l
		}
		return nums("1")
	}
	for _, x := range some(!c.isCount) {
		for _, a := range l {
			for _, b := range some(len(c.args) > 1) {
				call([]api.Dyad{x, a, b})
			}
		}
	}
}

// sizes are small and great, and beside 0 and 1.
func sizes() []api.Dyad {
	return nums("-1p60", "-3", "-1", "-1p-50", "0", "1p-50", "1p-1", "1+-1p-50", "1", "1+1p-50", "2", "3", "1p60")
}

// P21.4: no value where the density is 0, or a scale or a rate is not above 0, and a value elsewhere, that of the published formula, at all points of a grid.
func TestGrid(t *testing.T) {
	m := newMaker(t, 1000)
	x, a, b := must(m.Par()), must(m.Par()), must(m.Par())
	met := map[bool]int{}
	for _, c := range rowsOf(x, a, b) {
		i := ask(t, m, c)
		c.freePoints(sizes(), func(q []api.Dyad) {
			inside := c.isInside(ratOf(q[0]), ratOf(q[1]), ratOf(q[2]))
			met[inside]++
			got := known(t, m, i, q, 2)
			if !inside {
				if got.Kind != api.IvUndef || known(t, m, i, q, 0).Kind != api.IvUndef {
					t.Errorf("%s at %s: %s, want no value", c.shown(), shownPoint(q), shown(got))
				}
				return
			}
			isTooGreat := (c.name == "bernoulli_logit" || c.name == "poisson_log") && q[1].E == 60
			want, size := c.formula(q)
			if isTooGreat && got.Kind != api.IvUnknown || !isTooGreat && !isNear(got, want, size) {
				t.Errorf("%s at %s: %s, want %v", c.shown(), shownPoint(q), shown(got), want)
			}
		})
	}
	if met[true] < 1000 || met[false] < 1000 {
		t.Errorf("met are %v", met)
	}
}

// edge is a row at an end of its open set: at that point there is no value, nor behind it.
type edge struct {
	c       asked
	q       string
	which   int  // what is moved: x, a or b
	isUpper bool // it is a value's upper end
}

// edges have x, a and b at 0, 1 and 2.
func edges() []edge {
	normal, lognormal, cauchy := term("normal", 0, 1, 2), term("lognormal", 0, 1, 2), term("cauchy", 0, 1, 2)
	exponential, gamma, beta, uniform := term("exponential", 0, 1), term("gamma", 0, 1, 2), term("beta", 0, 1, 2), term("uniform", 0, 1, 2)
	out := []edge{
		{normal, "3 5 0", 2, false}, {normal, "3 3 0", 2, false}, {normal, "-3 0 0", 2, false},
		{lognormal, "3 5 0", 2, false}, {lognormal, "1 0 0", 2, false}, {lognormal, "0 5 2", 0, false}, {lognormal, "0 0 1", 0, false},
		{cauchy, "3 5 0", 2, false}, {cauchy, "3 3 0", 2, false},
		{exponential, "0 5 0", 0, false}, {exponential, "5 0 0", 1, false}, {exponential, "1p-9 0 0", 1, false},
		{gamma, "0 5 2", 0, false}, {gamma, "0 1 2", 0, false}, {gamma, "0 1p-1 2", 0, false},
		{gamma, "5 0 2", 1, false}, {gamma, "1 0 1", 1, false}, {gamma, "5 3 0", 2, false}, {gamma, "5 1 0", 2, false},
		{beta, "0 3 4", 0, false}, {beta, "0 1 1", 0, false}, {beta, "1 3 4", 0, true}, {beta, "1 1 1", 0, true}, {beta, "0 1p-1 1p-1", 0, false}, {beta, "1 1p-1 1p-1", 0, true},
		{beta, "1p-1 0 4", 1, false}, {beta, "1p-1 0 1", 1, false}, {beta, "1p-1 3 0", 2, false}, {beta, "1p-1 1 0", 2, false},
		{uniform, "3 3 4", 0, false}, {uniform, "4 3 4", 0, true}, {uniform, "0 0 1", 0, false}, {uniform, "0 -1 0", 0, true},
		{uniform, "3 3 4", 1, true}, {uniform, "4 3 4", 2, false}, {uniform, "-3 -3 -2", 0, false}, {uniform, "-3 -4 -3", 0, true},
	}
	for k := range int64(2) {
		out = append(out, edge{count("bernoulli", k, 1), "0 0 0", 1, false}, edge{count("bernoulli", k, 1), "0 1 0", 1, true})
	}
	for _, k := range []int64{0, 1, 2, 5, 1 << 40} {
		out = append(out, edge{count("poisson", k, 1), "0 0 0", 1, false})
	}
	return out
}

// withSteps has x, a and b at 0, 1 and 2: as parameters, or as the numbers that they are.
func withSteps(t *testing.T, rats []*big.Rat, areNumbers bool) (*tape.Maker, []int) {
	t.Helper()
	m := newMaker(t, 100)
	var steps []int
	for _, x := range rats {
		if areNumbers {
			steps = append(steps, must(m.Num(fracOf(x))))
		} else {
			steps = append(steps, must(m.Par()))
		}
	}
	return m, steps
}

// of is the same call with other steps in the place of 0, 1 and 2.
func (c asked) of(steps []int) asked {
	c.x = steps[c.x]
	c.args = slices.Clone(c.args)
	for i, a := range c.args {
		c.args[i] = steps[a]
	}
	return c
}

// kindIs checks what is known at some levels of a row at a point. Numbers are told to a level's bits, so that it takes some more than these for what is n bits beside an end.
func kindIs(t *testing.T, c asked, q []api.Dyad, n int, want uint8) {
	t.Helper()
	var rats []*big.Rat
	for _, x := range q {
		rats = append(rats, ratOf(x))
	}
	for _, areNumbers := range []bool{false, true} {
		m, steps := withSteps(t, rats, areNumbers)
		point := q
		if areNumbers {
			point = nil
		}
		i := ask(t, m, c.of(steps))
		for _, level := range []int{0, 2, mostLevel} {
			isTold := !areNumbers || 32*(level+1) > n+10
			if got := known(t, m, i, point, level); got.Kind != want && (isTold || got.Kind != api.IvUnknown) {
				t.Errorf("%s at %s, numbers: %v, level %d: %s, want kind %d", c.shown(), shownPoint(q), areNumbers, level, shown(got), want)
			}
		}
	}
}

func moved(x api.Dyad, by *big.Rat) api.Dyad {
	sum := plus(ratOf(x), by)
	return odd(sum.Num(), 1-sum.Denom().BitLen())
}

// P21.4: at the ends of the open set, and beside them either way.
func TestEnds(t *testing.T) {
	for _, c := range edges() {
		for _, n := range []int{1, 40, 1000, 1900} {
			for _, way := range []int64{-1, 0, 1} {
				var q []api.Dyad
				for i, s := range strings.Fields(c.q) {
					x := num(s)
					if i == c.which {
						x = moved(x, new(big.Rat).SetFrac(big.NewInt(way), pow2(n)))
					}
					q = append(q, x)
				}
				want := api.IvUndef
				if way > 0 && !c.isUpper || way < 0 && c.isUpper {
					want = api.IvSome
				}
				kindIs(t, c.c, q, n, want)
			}
		}
	}
}

// P21.4: a k that has no chance, whatever the argument.
func TestNever(t *testing.T) {
	for _, name := range countNames() {
		for _, k := range farCounts() {
			for _, a := range nums("-1p100", "-1", "0", "1p-100", "1p-1", "1", "5") {
				if c := count(name, k, 1); k < 0 || k > 1 && name[0] == 'b' {
					kindIs(t, c, []api.Dyad{{}, a, {}}, 0, api.IvUndef)
				}
			}
		}
	}
}

// P21.4: what has no value among the arguments.
func TestArgumentsWithoutValue(t *testing.T) {
	m := newMaker(t, 1000)
	half := must(m.Num(ratio(1, 2)))
	none := must(m.One(api.NdLog, must(m.Num(ratio(-1, 1)))))
	for _, l := range [][3]int{{none, half, half}, {half, none, half}, {half, half, none}} {
		for _, c := range rowsOf(l[0], l[1], l[2]) {
			if slices.Contains(c.steps(), none) && (!c.isCount || c.isInside(nil, big.NewRat(1, 2), nil)) {
				for _, level := range []int{0, 5} {
					if a := known(t, m, ask(t, m, c), nil, level); a.Kind != api.IvUndef {
						t.Errorf("%s: %s", c.shown(), shown(a))
					}
				}
			}
		}
	}
}

// P21.4: ends that are no dyadic numbers: what is beside them is told apart, and at them there never is a value.
func TestThirds(t *testing.T) {
	third, near := big.NewRat(1, 3), new(big.Rat).SetFrac(big.NewInt(1), pow2(200))
	below, above, far := minus(third, near), plus(third, near), big.NewRat(5, 7)
	for _, c := range []struct {
		x, a, b *big.Rat
		want    uint8
	}{
		{below, third, far, api.IvUndef}, {third, third, far, api.IvUnknown}, {above, third, far, api.IvSome},
		{below, new(big.Rat), third, api.IvSome}, {third, new(big.Rat), third, api.IvUnknown}, {above, new(big.Rat), third, api.IvUndef},
		{third, above, far, api.IvUndef}, {third, below, far, api.IvSome}, {third, below, above, api.IvSome}, {third, above, below, api.IvUndef},
	} {
		m, steps := withSteps(t, []*big.Rat{c.x, c.a, c.b}, true)
		i := ask(t, m, term("uniform", steps[0], steps[1:]...))
		for _, level := range []int{0, 3, 20, mostLevel} {
			got := known(t, m, i, nil, level)
			if got.Kind != c.want && (level >= 20 || got.Kind != api.IvUnknown) {
				t.Errorf("uniform %s at %s and %s, level %d: %s, want kind %d", c.x, c.a, c.b, level, shown(got), c.want)
			}
		}
	}
}
