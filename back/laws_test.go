package back_test

import (
	"math"
	"math/big"
	"math/rand/v2"
	"slices"
	"strconv"
	"testing"

	"stepstone/api"
	"stepstone/back"
	"stepstone/fore"
	"stepstone/ivl"
)

// contains tells whether an interval contains a number.
func contains(a api.Ivl, x *big.Rat) bool {
	return a.Kind == api.IvUnknown || a.Kind == api.IvSome && ratOf(a.Lo).Cmp(x) <= 0 && ratOf(a.Hi).Cmp(x) >= 0
}

func width(a api.Ivl) *big.Rat { return new(big.Rat).Sub(ratOf(a.Hi), ratOf(a.Lo)) }

// isNarrow tells whether bounds are at most 2^-bits apart.
func isNarrow(a api.Ivl, bits int) bool {
	return a.Kind == api.IvSome && width(a).Cmp(new(big.Rat).SetFrac(big.NewInt(1), pow2(bits))) <= 0
}

// between is what is known of a number with rational bounds, to p bits, outwards.
func between(lo, hi *big.Rat, p int) api.Ivl {
	return some(rounded(lo, p, false), rounded(hi, p, true))
}

// around is a box with a rational point in it: next to the point, or further away.
func around(g *rand.Rand, point []*big.Rat) []api.Ivl {
	var box []api.Ivl
	for _, x := range point {
		bits := 1 + g.IntN(70)
		off := oneOf(g, new(big.Rat), new(big.Rat), big.NewRat(1, 1<<40), big.NewRat(1, 100), big.NewRat(1+g.Int64N(9), 4))
		box = append(box, between(new(big.Rat).Sub(x, off), new(big.Rat).Add(x, off), bits))
		if g.IntN(20) == 0 {
			box[len(box)-1] = unknown()
		}
	}
	return box
}

// holds checks the slopes in a box against the derivatives at a point of it, and counts what was met.
func holds(t *testing.T, x api.Tape, box []api.Ivl, p int, q []*big.Rat, met map[string]int) {
	t.Helper()
	a, l, e := back.Of(x, box, p)
	if e != api.OK || len(l) != x.Pars {
		t.Fatalf("Of of %s, %s: %s, %s, %d", shownTape(x), shown(box...), shown(a), shown(l...), e)
	}
	out := pointsOf(x, q)[x.Out]
	if out.none && a.Kind == api.IvSome || out.d != nil && a.Kind == api.IvUndef || out.x != nil && !contains(a, out.x) {
		t.Errorf("Of of %s, %s, %d bits = %s, but %v is there", shownTape(x), shown(box...), p, shown(a), out)
	}
	if a.Kind != api.IvSome || out.d == nil {
		return
	}
	live := liveByHand(x)
	for k, d := range out.d {
		if !contains(l[k], d) {
			t.Errorf("%s, %s, %d bits: slope %d is %s, but it is %s at %v", shownTape(x), shown(box...), p, k, shown(l[k]), d, q)
		}
		if d.Sign() != 0 && l[k].Kind == api.IvSome {
			for i, n := range x.Nodes {
				if live[i] {
					met["Op "+strconv.Itoa(int(n.Op))]++
				}
			}
		}
	}
}

func anyRationals(g *rand.Rand, n int) []*big.Rat {
	var out []*big.Rat
	for range n {
		out = append(out, big.NewRat(g.Int64N(21)-6, 1+g.Int64N(6)))
	}
	return out
}

// P19.3: boxes around rational points; exponentials of 0, logarithms, and roots of squares have rational derivatives, too.
func TestHolds(t *testing.T) {
	g := rand.New(rand.NewPCG(19, 10))
	met := map[string]int{}
	for range 30000 {
		x := anyTape(g, 14)
		x.Out = len(x.Nodes) - 1
		q := anyRationals(g, x.Pars)
		holds(t, x, around(g, q), oneOf(g, 1, 2, 5, 32, 64, 1+g.IntN(200)), q, met)
	}
	for op := api.NdNum; op <= api.NdNeed; op++ {
		if what := "Op " + strconv.Itoa(int(op)); met[what] < 20 {
			t.Errorf("only %d of %s", met[what], what)
		}
	}
}

// P19.3: sums, differences, products and quotients of steps that hang together.
func TestHoldsLong(t *testing.T) {
	g := rand.New(rand.NewPCG(19, 11))
	met := map[string]int{}
	for range 1500 {
		nodes := []api.Node{par(0), par(1), par(2), number(1+g.Int64N(9), 7), par(0)}
		for range 3 + g.IntN(20) {
			n := len(nodes)
			nodes = append(nodes, two(oneOf(g, opsOfTwo()...), n-1-g.IntN(3), g.IntN(n)))
		}
		q := anyRationals(g, 3)
		holds(t, tapeOf(3, nodes...), around(g, q), oneOf(g, 8, 64, 300), q, met)
	}
	for _, op := range opsOfTwo() {
		if what := "Op " + strconv.Itoa(int(op)); met[what] < 500 {
			t.Errorf("only %d of %s", met[what], what)
		}
	}
}

// P19.3: several points of one box, both ends among them.
func TestHoldsInBox(t *testing.T) {
	g := rand.New(rand.NewPCG(19, 12))
	met := map[string]int{}
	for range 2500 {
		x := anyTape(g, 10)
		box := anyBounds(g, x.Pars)
		for k := range int64(5) {
			var q []*big.Rat
			for _, a := range box {
				step := new(big.Rat).Mul(width(a), big.NewRat(k, 4))
				q = append(q, step.Add(step, ratOf(a.Lo)))
			}
			holds(t, x, box, 40, q, met)
		}
	}
	if met["Op 5"] < 200 || met["Op 6"] < 50 || met["Op 9"] < 20 {
		t.Errorf("only %v", met)
	}
}

// anyBounds is a box of intervals with bounds.
func anyBounds(g *rand.Rand, pars int) []api.Ivl {
	var box []api.Ivl
	for range pars {
		x, y := ratOf(anyNumber(g)), ratOf(anyNumber(g))
		if x.Cmp(y) > 0 {
			x, y = y, x
		}
		box = append(box, between(x, y, 400))
	}
	return box
}

// P19.3: at a point, with many bits, slopes are as narrow as can be, so what is known is no mere nothing.
func TestHoldsNarrowly(t *testing.T) {
	g := rand.New(rand.NewPCG(19, 13))
	count := 0
	for range 3000 {
		x := anyTape(g, 14)
		q := anyRationals(g, x.Pars)
		var box []api.Ivl
		for k := range q {
			q[k] = ratOf(rounded(q[k], 6, false))
			box = append(box, between(q[k], q[k], 6))
		}
		a, l, e := back.Of(x, box, 600)
		out := pointsOf(x, q)[x.Out]
		if e != api.OK || a.Kind != api.IvSome || out.d == nil {
			continue
		}
		for k, d := range out.d {
			count++
			if !contains(l[k], d) || !isNarrow(l[k], 400) {
				t.Errorf("%s, %s: slope %d is %s, but it is %s", shownTape(x), shown(box...), k, shown(l[k]), d)
			}
		}
	}
	if count < 500 {
		t.Errorf("only %d slopes", count)
	}
}

// formula is a tape of two parameters, and what floats say of it and of its derivatives.
type formula struct {
	nodes []api.Node
	float func(x, y float64) float64
	byX   func(x, y float64) float64
	byY   func(x, y float64) float64
}

func formulas() []formula {
	start := func(l ...api.Node) []api.Node { return append([]api.Node{par(0), par(1)}, l...) }
	zero := func(x, y float64) float64 { return 0 }
	logit := func(x float64) float64 { return 1 / (1 + math.Exp(-x)) }
	return []formula{
		{start(one(api.NdExp, 0)), func(x, y float64) float64 { return math.Exp(x) }, func(x, y float64) float64 { return math.Exp(x) }, zero},
		{start(one(api.NdLog, 1)), func(x, y float64) float64 { return math.Log(y) }, zero, func(x, y float64) float64 { return 1 / y }},
		{start(one(api.NdRoot, 1)), func(x, y float64) float64 { return math.Sqrt(y) }, zero, func(x, y float64) float64 { return 0.5 / math.Sqrt(y) }},
		{start(two(api.NdMul, 0, 0), one(api.NdExp, 2), one(api.NdLog, 1), number(9, 1), two(api.NdSub, 4, 5), two(api.NdDiv, 3, 6)),
			func(x, y float64) float64 { return math.Exp(x*x) / (math.Log(y) - 9) },
			func(x, y float64) float64 { return 2 * x * math.Exp(x*x) / (math.Log(y) - 9) },
			func(x, y float64) float64 { return -math.Exp(x*x) / ((math.Log(y) - 9) * (math.Log(y) - 9) * y) }},
		{start(one(api.NdRoot, 1), one(api.NdNeg, 2), one(api.NdExp, 3), two(api.NdMul, 4, 0)),
			func(x, y float64) float64 { return x * math.Exp(-math.Sqrt(y)) },
			func(x, y float64) float64 { return math.Exp(-math.Sqrt(y)) },
			func(x, y float64) float64 { return -x * math.Exp(-math.Sqrt(y)) / (2 * math.Sqrt(y)) }},
		{start(two(api.NdSub, 0, 1), two(api.NdMul, 2, 2), number(-1, 2), two(api.NdMul, 3, 4), one(api.NdLog, 1), two(api.NdSub, 5, 6)),
			func(x, y float64) float64 { return -(x-y)*(x-y)/2 - math.Log(y) },
			func(x, y float64) float64 { return y - x },
			func(x, y float64) float64 { return x - y - 1/y }},
		{start(one(api.NdExp, 0), number(1, 1), two(api.NdAdd, 2, 3), one(api.NdLog, 4), one(api.NdNeed, 1), two(api.NdAdd, 5, 6)),
			func(x, y float64) float64 { return math.Log1p(math.Exp(x)) }, func(x, y float64) float64 { return logit(x) }, zero},
		{start(one(api.NdRoot, 1), one(api.NdRoot, 2), one(api.NdRoot, 3), two(api.NdMul, 0, 4)),
			func(x, y float64) float64 { return x * math.Pow(y, 0.125) },
			func(x, y float64) float64 { return math.Pow(y, 0.125) },
			func(x, y float64) float64 { return x * 0.125 * math.Pow(y, -0.875) }},
		{start(one(api.NdLog, 1), two(api.NdMul, 0, 2), one(api.NdExp, 3)),
			func(x, y float64) float64 { return math.Pow(y, x) },
			func(x, y float64) float64 { return math.Log(y) * math.Pow(y, x) },
			func(x, y float64) float64 { return x * math.Pow(y, x-1) }},
	}
}

func isNear(a api.Ivl, want float64) bool {
	lo, hi := floats(a)
	return a.Kind == api.IvSome && math.Abs(lo-want) <= 1e-11*(1+math.Abs(want)) && math.Abs(hi-want) <= 1e-11*(1+math.Abs(want))
}

// P19.3: exponentials, logarithms and roots, as floats have them and their derivatives.
func TestFormulas(t *testing.T) {
	for i, f := range formulas() {
		for _, x := range []string{"0", "1p-3", "-1p-1", "3p-1", "-5p-1"} {
			for _, y := range []string{"1p-2", "3p-2", "5p-2", "2", "29"} {
				fx, _ := floats(known(x))
				fy, _ := floats(known(y))
				a, l := ofBox(t, tapeOf(2, f.nodes...), knowns(x+", "+y), 128)
				if !isNear(a, f.float(fx, fy)) || !isNear(l[0], f.byX(fx, fy)) || !isNear(l[1], f.byY(fx, fy)) {
					t.Errorf("formula %d at %s, %s: %s, %s, want %v, %v, %v", i, x, y, shown(a), shown(l...), f.float(fx, fy), f.byX(fx, fy), f.byY(fx, fy))
				}
			}
		}
	}
}

// P19.3: what is known in another way: an exponential is its own derivative; a logarithm undoes it; a root times itself is what it is of.
func TestInverses(t *testing.T) {
	want := map[string]api.Tape{
		"1":  tapeOf(1, par(0), one(api.NdExp, 0), one(api.NdLog, 1)),
		"1 ": tapeOf(1, par(0), one(api.NdLog, 0), one(api.NdExp, 1)),
		" 1": tapeOf(1, par(0), one(api.NdRoot, 0), two(api.NdMul, 1, 1)),
		"0":  tapeOf(1, par(0), one(api.NdExp, 0), one(api.NdNeg, 0), one(api.NdExp, 2), two(api.NdMul, 1, 3)),
		"-1": tapeOf(1, par(0), number(1, 1), one(api.NdExp, 0), two(api.NdDiv, 1, 2), one(api.NdLog, 3)),
	}
	for d, x := range want {
		for _, q := range []string{"1p-9", "1p-1", "1", "2", "3p-1", "29"} {
			a, l := ofBox(t, x, knowns(q), 200)
			n, _ := strconv.Atoi(string(slices.DeleteFunc([]byte(d), func(c byte) bool { return c == ' ' })))
			if a.Kind != api.IvSome || !contains(l[0], big.NewRat(int64(n), 1)) || !isNarrow(l[0], 80) {
				t.Errorf("%s at %s: %s, %s, want the slope %d", shownTape(x), q, shown(a), shown(l...), n)
			}
		}
	}
	x := tapeOf(1, par(0), one(api.NdExp, 0))
	for _, q := range []string{"-3 5", "0 1", "1p-9", "-29"} {
		if a, l := ofBox(t, x, knowns(q), 70); a.Kind != api.IvSome || !same(a, l[0]) {
			t.Errorf("the exponential of %s is %s, but its slope %s", q, shown(a), shown(l...))
		}
	}
}

// spread is the sum of slopes, each times the difference of a parameter: its least and its greatest number. It is false if not all slopes have bounds.
func spread(l []api.Ivl, by []*big.Rat) (lo, hi *big.Rat, ok bool) {
	lo, hi = new(big.Rat), new(big.Rat)
	for k, a := range l {
		if a.Kind != api.IvSome {
			return nil, nil, false
		}
		x, y := new(big.Rat).Mul(ratOf(a.Lo), by[k]), new(big.Rat).Mul(ratOf(a.Hi), by[k])
		if x.Cmp(y) > 0 {
			x, y = y, x
		}
		lo.Add(lo, x)
		hi.Add(hi, y)
	}
	return lo, hi, true
}

// pick is a point of a box with bounds.
func pick(g *rand.Rand, box []api.Ivl) []*big.Rat {
	var q []*big.Rat
	for _, a := range box {
		step := new(big.Rat).Mul(width(a), big.NewRat(oneOf(g, 0, 8, g.Int64N(9)), 8))
		q = append(q, step.Add(step, ratOf(a.Lo)))
	}
	return q
}

func differences(a, b []*big.Rat) []*big.Rat {
	var out []*big.Rat
	for k := range a {
		out = append(out, new(big.Rat).Sub(a[k], b[k]))
	}
	return out
}

// P19.4: pairs of points of a box, at which the values of Out are rational.
func TestBetween(t *testing.T) {
	g := rand.New(rand.NewPCG(19, 14))
	count := 0
	for range 6000 {
		x := anyTape(g, 12)
		box := anyBounds(g, x.Pars)
		a, l, e := back.Of(x, box, oneOf(g, 1, 2, 5, 20, 64))
		if e != api.OK {
			t.Fatalf("Of of %s, %s: %d", shownTape(x), shown(box...), e)
		}
		if a.Kind != api.IvSome {
			continue
		}
		for range 4 {
			q, r := pick(g, box), pick(g, box)
			at, before := pointsOf(x, q)[x.Out], pointsOf(x, r)[x.Out]
			lo, hi, ok := spread(l, differences(q, r))
			if at.x == nil || before.x == nil || !ok {
				continue
			}
			d := new(big.Rat).Sub(at.x, before.x)
			if d.Sign() != 0 {
				count++
			}
			if lo.Cmp(d) > 0 || hi.Cmp(d) < 0 {
				t.Errorf("%s, %s: from %v to %v Out grows by %s, which is not from %s to %s", shownTape(x), shown(box...), r, q, d, lo, hi)
			}
		}
	}
	if count < 1000 {
		t.Errorf("only %d pairs", count)
	}
}

// pointBox is from each number to itself. It needs dyadic ones.
func pointBox(q []*big.Rat) []api.Ivl {
	var box []api.Ivl
	for _, x := range q {
		box = append(box, between(x, x, 3000))
	}
	return box
}

// P19.4: the same where values are not rational: what is known of their difference, by many bits, and the sum of slopes have something in common.
func TestBetweenFormulas(t *testing.T) {
	g := rand.New(rand.NewPCG(19, 15))
	count := 0
	for _, f := range formulas() {
		x := tapeOf(2, f.nodes...)
		for _, box := range []string{"-1 1, 1p-2 2", "0 1p-9, 1 3", "-2 -1, 5 29", "1p-1 1, 1p-1 3p-1", "-1p-40 1p-40, 1"} {
			_, l := ofBox(t, x, knowns(box), oneOf(g, 2, 30, 90))
			for range 6 {
				q, r := pick(g, knowns(box)), pick(g, knowns(box))
				a, _ := fore.Run(x, pointBox(q), 400)
				b, _ := fore.Run(x, pointBox(r), 400)
				lo, hi, ok := spread(l, differences(q, r))
				d := ivl.Sub(a[x.Out], b[x.Out], 400)
				if !ok || d.Kind != api.IvSome {
					t.Errorf("%s in %s: %s, %s", shownTape(x), box, shown(l...), shown(d))
					continue
				}
				count++
				if ratOf(d.Hi).Cmp(lo) < 0 || ratOf(d.Lo).Cmp(hi) > 0 || !isNarrow(d, 300) {
					t.Errorf("%s in %s: Out grows by %s, which is not from %s to %s", shownTape(x), box, shown(d), lo, hi)
				}
			}
		}
	}
	if count < 100 {
		t.Errorf("only %d pairs", count)
	}
}

// P19.4: in a narrow box the slopes leave little room: the sum is no wider than the box and the slopes are.
func TestBetweenNarrowly(t *testing.T) {
	x := tapeOf(2, par(0), par(1), two(api.NdMul, 0, 1), one(api.NdExp, 2), two(api.NdDiv, 3, 1), one(api.NdRoot, 4))
	box := knowns("1 1048577p-20, 3 3145729p-20")
	a, l := ofBox(t, x, box, 80)
	if a.Kind != api.IvSome || !isNarrow(l[0], 10) || !isNarrow(l[1], 10) {
		t.Errorf("Of = %s, %s", shown(a), shown(l...))
	}
}
