package chart_test

import (
	"math"
	"math/big"
	"math/rand/v2"
	"slices"
	"testing"

	"stepstone/api"
	"stepstone/back"
	"stepstone/chart"
	"stepstone/fore"
	"stepstone/tape"
)

// drawn is a chart of a step u, with e to the power of its logarithm.
type drawn struct {
	t                  *testing.T
	maker              *tape.Maker
	lower, upper, x, j int
	growth             int
}

// draw needs a maker with room, and steps of it.
func draw(t *testing.T, m *tape.Maker, u, lower, upper int) drawn {
	t.Helper()
	x, j, e := chart.Put(m, u, lower, upper)
	if e != api.OK {
		t.Fatalf("Put %s of %s: error %d", shownCall(u, lower, upper), shownTape(madeBy(m)), e)
	}
	return drawn{t, m, lower, upper, x, j, must(m.One(api.NdExp, j))}
}

// known is what is known of a step at a point.
func (c drawn) known(i int, q []api.Dyad, level int) api.Ivl {
	c.t.Helper()
	x, _ := c.maker.Tape(i, nil)
	a, e := fore.At(x, q, level)
	if e != api.OK {
		c.t.Fatalf("At of %s: error %d", shownTape(x), e)
	}
	return a
}

// slopes are those of the parameter in a box.
func (c drawn) slopes(box []api.Ivl, p int) []api.Ivl {
	c.t.Helper()
	x, _ := c.maker.Tape(c.x, nil)
	_, l, e := back.Of(x, box, p)
	if e != api.OK {
		c.t.Fatalf("Of of %s: error %d", shownTape(x), e)
	}
	return l
}

// bounds are a lower and an upper one, which is above it.
type bounds struct{ lower, upper api.Frac }

func someBounds() []bounds {
	far := api.Frac{N: api.Int{M: natOf(pow2(100))}, D: api.Nat{1}}
	near := api.Frac{N: api.Int{M: api.Nat{1}}, D: natOf(pow2(100))}
	return []bounds{
		{ratio(0, 1), ratio(1, 1)},
		{ratio(-3, 1), ratio(5, 1)},
		{ratio(-1, 1), ratio(1, 1)},
		{ratio(1, 3), ratio(2, 3)},
		{ratio(-1000001, 1), ratio(-2000001, 2)},
		{ratio(-1, 7), ratio(0, 1)},
		{ratio(0, 1), near},
		{ratio(9, 7), far},
	}
}

// drawRows calls for each row of the table, for these bounds and the parameter 0.
func drawRows(t *testing.T, b bounds, call func(c drawn)) {
	t.Helper()
	m := newMaker(t, 200)
	u := must(m.Par())
	eachRow(must(m.Num(b.lower)), must(m.Num(b.upper)), func(lower, upper int) { call(draw(t, m, u, lower, upper)) })
}

// points are in their order.
func points() []api.Dyad {
	return nums("-500", "-400", "-400", "-100", "-30", "-5p-1", "-1", "-1p-3", "-1p-90", "0", "1p-200", "1p-90", "3p-2", "1", "1048577p-20", "30", "100", "7681p-4", "500")
}

// P20.2: the parameter is above the lower bound, and below the upper one, at points of small and great size.
func TestBetweenBounds(t *testing.T) {
	for _, b := range someBounds() {
		drawRows(t, b, func(c drawn) {
			for _, q := range points() {
				at := []api.Dyad{q}
				for _, level := range []int{0, 1, 5, mostLevel} {
					x := c.known(c.x, at, level)
					if x.Kind == api.IvUndef || level == mostLevel && x.Kind != api.IvSome {
						t.Errorf("%s at %s, level %d: %s", shownTape(madeBy(c.maker)), shownNumber(q), level, shown(x))
						continue
					}
					if x.Kind == api.IvSome {
						c.isInside(x, at, level, level == mostLevel)
					}
				}
			}
		})
	}
}

// isInside checks what is known of a parameter: it may not be outside its bounds, and surely is within them where there are bits enough.
func (c drawn) isInside(x api.Ivl, at []api.Dyad, level int, surely bool) {
	c.t.Helper()
	if c.lower != none {
		if l := c.known(c.lower, at, level); !less(l.Lo, x.Hi) || surely && !less(l.Hi, x.Lo) {
			c.t.Errorf("%s at %s, level %d: %s, but the lower bound %s", shownTape(madeBy(c.maker)), shownNumber(at[0]), level, shown(x), shown(l))
		}
	}
	if c.upper != none {
		if l := c.known(c.upper, at, level); !less(x.Lo, l.Hi) || surely && !less(x.Hi, l.Lo) {
			c.t.Errorf("%s at %s, level %d: %s, but the upper bound %s", shownTape(madeBy(c.maker)), shownNumber(at[0]), level, shown(x), shown(l))
		}
	}
}

// P20.2: the parameter grows with u, but decreases if there is only an upper bound.
func TestGrows(t *testing.T) {
	for _, b := range someBounds() {
		drawRows(t, b, func(c drawn) {
			falls := c.lower == none && c.upper != none
			l := points()
			for i, q := range l[1:] {
				x, y := c.known(c.x, []api.Dyad{l[i]}, mostLevel), c.known(c.x, []api.Dyad{q}, mostLevel)
				if falls {
					x, y = y, x
				}
				same := !less(l[i], q)
				if !same && !less(x.Hi, y.Lo) || same && (less(x.Hi, y.Lo) || less(y.Hi, x.Lo)) {
					t.Errorf("%s at %s and %s: from %s to %s, falls: %v", shownTape(madeBy(c.maker)), shownNumber(l[i]), shownNumber(q), shown(x), shown(y), falls)
				}
			}
		})
	}
}

// P20.2: points so great, or so near to 0, that little is known there: nothing that is wrong is.
func TestFarPoints(t *testing.T) {
	for _, b := range someBounds() {
		drawRows(t, b, func(c drawn) {
			for _, q := range nums("1p14", "-1p14", "1p1000", "-1p1000", "1p3999", "-1p3999", "12345p100000", "-12345p100000", "1p-3999", "-1p-3999", "1p-100000", "-1p-100000") {
				at := []api.Dyad{q}
				for _, level := range []int{0, 3, mostLevel} {
					x, j := c.known(c.x, at, level), c.known(c.j, at, level)
					if x.Kind == api.IvUndef || j.Kind == api.IvUndef {
						t.Errorf("%s at %s: %s, %s", shownTape(madeBy(c.maker)), shownNumber(q), shown(x), shown(j))
					}
					if x.Kind == api.IvSome {
						c.isInside(x, at, level, false)
					}
				}
			}
		})
	}
}

// P20.2: if the upper bound is not above the lower one, the logarithm has no value.
func TestWrongWayRound(t *testing.T) {
	for _, c := range []struct {
		lower, upper api.Frac
		exact        bool
	}{
		{ratio(1, 1), ratio(0, 1), true},
		{ratio(5, 1), ratio(5, 1), true},
		{ratio(0, 1), ratio(-1, 8), true},
		{ratio(-3, 1), ratio(-1000000, 1), true},
		{ratio(2, 3), ratio(1, 3), true},
		{ratio(0, 1), ratio(-1, 7), true},
		{ratio(1, 3), ratio(1, 3), false},
	} {
		m := newMaker(t, 100)
		u := must(m.Par())
		d := draw(t, m, u, must(m.Num(c.lower)), must(m.Num(c.upper)))
		d.hasNoLogarithm(points(), c.exact)
	}
}

// hasNoLogarithm checks that nothing else is ever known, and that it is known if the bounds are.
func (c drawn) hasNoLogarithm(l []api.Dyad, exact bool) {
	c.t.Helper()
	for _, q := range l {
		for _, level := range []int{0, 1, 9, mostLevel} {
			j, y := c.known(c.j, []api.Dyad{q}, level), c.known(c.growth, []api.Dyad{q}, level)
			if j.Kind == api.IvSome || exact && j.Kind != api.IvUndef || y.Kind != j.Kind {
				c.t.Errorf("%s at %s, level %d: the logarithm is %s, its exponential %s", shownTape(madeBy(c.maker)), shownNumber(q), level, shown(j), shown(y))
			}
		}
	}
}

// P20.2: bounds that are equal in value, or the wrong way round, by other steps; or one step; or u itself.
func TestWrongWayRoundBySteps(t *testing.T) {
	m := newMaker(t, 200)
	u := must(m.Par())
	one := must(m.Num(ratio(1, 1)))
	n := must(m.Num(ratio(2, 1)))
	third := must(m.Num(ratio(1, 3)))
	sum := must(m.Two(api.NdAdd, one, one))
	quotient := must(m.Two(api.NdDiv, one, must(m.Num(ratio(3, 1)))))
	root := must(m.One(api.NdRoot, n))
	square := must(m.Two(api.NdMul, root, root))
	for _, c := range []struct {
		lower, upper int
		exact        bool
	}{
		{n, sum, true}, {sum, n, true}, {sum, sum, true}, {sum, one, true}, {root, one, true}, {n, root, true},
		{third, quotient, false}, {quotient, third, false}, {n, square, false}, {square, n, false}, {root, root, false},
		{u, u, true},
	} {
		draw(t, m, u, c.lower, c.upper).hasNoLogarithm(points(), c.exact)
	}
	log := must(m.One(api.NdLog, must(m.Num(ratio(0, 1)))))
	for _, c := range [][2]int{{log, one}, {one, log}, {log, log}, {log, none}, {none, log}} {
		d := draw(t, m, u, c[0], c[1])
		for _, q := range points() {
			if x := d.known(d.x, []api.Dyad{q}, 3); x.Kind != api.IvUndef {
				t.Errorf("%s with a bound that has no value: %s", shownCall(u, c[0], c[1]), shown(x))
			}
		}
	}
}

// P20.2: bounds that are parameters: at each point either the parameter is between them, or its logarithm has no value.
func TestBoundsThatVary(t *testing.T) {
	g := rand.New(rand.NewPCG(20, 2))
	m := newMaker(t, 100)
	u, lower, upper := must(m.Par()), must(m.Par()), must(m.Par())
	c := draw(t, m, u, lower, upper)
	count := map[bool]int{}
	for range 400 {
		l := []api.Dyad{anyNumber(g), anyNumber(g), anyNumber(g)}
		ok := less(l[1], l[2])
		count[ok]++
		x, j := c.known(c.x, l, 20), c.known(c.j, l, 20)
		if ok {
			c.isInside(x, l, 20, true)
		}
		if ok != (j.Kind == api.IvSome) || ok == (j.Kind == api.IvUndef) {
			t.Errorf("at %s between %s and %s: %s, %s", shownNumber(l[0]), shownNumber(l[1]), shownNumber(l[2]), shown(x), shown(j))
		}
	}
	if count[true] < 100 || count[false] < 100 {
		t.Errorf("only %v", count)
	}
}

func anyNumber(g *rand.Rand) api.Dyad {
	return odd(big.NewInt(g.Int64N(2001)-1000), -g.IntN(9)-2)
}

// magnitude is that of a slope, which decreases or not.
func magnitude(a api.Ivl, falls bool) api.Ivl {
	if a.Kind != api.IvSome || !falls {
		return a
	}
	turned := func(x api.Dyad) api.Dyad {
		x.M.Neg = !x.M.Neg && len(x.M.M) > 0
		return x
	}
	return some(turned(a.Hi), turned(a.Lo))
}

// meet tells whether two intervals can be of one number.
func meet(a, b api.Ivl) bool {
	return a.Kind == api.IvSome && b.Kind == api.IvSome && !less(a.Hi, b.Lo) && !less(b.Hi, a.Lo)
}

// isNarrow tells whether bounds are above 0, and alike in so many bits.
func isNarrow(a api.Ivl, bits int) bool {
	width := new(big.Rat).Sub(ratOf(a.Hi), ratOf(a.Lo))
	width.Mul(width, new(big.Rat).SetInt(pow2(bits)))
	return a.Lo.M.M != nil && !a.Lo.M.Neg && width.Cmp(ratOf(a.Lo)) <= 0
}

func (c drawn) falls() bool { return c.lower == none && c.upper != none }

// growthIn is what is known of e to the power of the logarithm in a box.
func (c drawn) growthIn(box []api.Ivl, p int) api.Ivl {
	c.t.Helper()
	x, _ := c.maker.Tape(c.growth, nil)
	vals, e := fore.Run(x, box, p)
	if e != api.OK {
		c.t.Fatalf("Run of %s: error %d", shownTape(x), e)
	}
	return vals[c.growth]
}

// P20.3: at points, the slope of the parameter is e to the power of the logarithm, but for its sign.
func TestSlopes(t *testing.T) {
	for _, b := range someBounds() {
		drawRows(t, b, func(c drawn) {
			for _, q := range points() {
				box := []api.Ivl{some(q, q)}
				slope := magnitude(c.slopes(box, 1800)[0], c.falls())
				want := c.growthIn(box, 1800)
				if !meet(slope, want) || !isNarrow(slope, 200) || !isNarrow(want, 200) {
					t.Errorf("%s at %s: the slope is %s, want %s", shownTape(madeBy(c.maker)), shownNumber(q), shown(slope), shown(want))
				}
			}
		})
	}
}

// P20.3: in boxes, what is known of the slope holds for e to the power of the logarithm at each point.
func TestSlopesInBoxes(t *testing.T) {
	for _, b := range someBounds() {
		drawRows(t, b, func(c drawn) {
			for _, l := range [][]api.Dyad{
				nums("0", "1p-10", "1p-9"), nums("-1p-3", "0", "1p-4"), nums("-1", "-1p-1", "1p-40", "1"), nums("3", "13p-2", "7p-1"),
				nums("-30", "-59p-1", "-29"), nums("19", "39p-1", "20"), nums("1", "1073741825p-30"), nums("-3", "0", "2"),
			} {
				box := []api.Ivl{some(l[0], l[len(l)-1])}
				for _, p := range []int{30, 64, 400} {
					slope := magnitude(c.slopes(box, p)[0], c.falls())
					if !meet(slope, c.growthIn(box, p)) {
						t.Errorf("%s in %s, %d bits: the slope is %s", shownTape(madeBy(c.maker)), shown(box[0]), p, shown(slope))
					}
					for _, q := range l {
						if at := c.growthIn([]api.Ivl{some(q, q)}, 800); !meet(slope, at) || !isNarrow(at, 100) {
							t.Errorf("%s in %s, %d bits: the slope is %s, but %s at %s", shownTape(madeBy(c.maker)), shown(box[0]), p, shown(slope), shown(at), shownNumber(q))
						}
					}
				}
			}
		})
	}
}

// floatsOf needs bounds whose exponents are not far away.
func floatsOf(a api.Ivl) (lo, hi float64) {
	lo, _ = ratOf(a.Lo).Float64()
	hi, _ = ratOf(a.Hi).Float64()
	return lo, hi
}

func isNear(a api.Ivl, want float64) bool {
	lo, hi := floatsOf(a)
	return a.Kind == api.IvSome && math.Abs(lo-want) <= 1e-11*(1+math.Abs(want)) && math.Abs(hi-want) <= 1e-11*(1+math.Abs(want))
}

// P20.2, P20.3: the published formulas, as floats have them.
func TestFormulas(t *testing.T) {
	for _, b := range [][2]int64{{0, 1}, {-3, 5}, {2, 4}, {-20, -10}, {-1, 0}} {
		for _, q := range nums("-9", "-5p-1", "-1p-3", "0", "1p-2", "1", "29p-3", "9") {
			u, _ := floatsOf(some(q, q))
			lower, upper := float64(b[0]), float64(b[1])
			s := 1 / (1 + math.Exp(-u))
			want := map[[2]bool][3]float64{
				{false, false}: {u, 0, 1},
				{true, false}:  {lower + math.Exp(u), u, math.Exp(u)},
				{false, true}:  {upper - math.Exp(u), u, -math.Exp(u)},
				{true, true}:   {lower + (upper-lower)*s, math.Log((upper - lower) * s * (1 - s)), (upper - lower) * s * (1 - s)},
			}
			drawRows(t, bounds{ratio(b[0], 1), ratio(b[1], 1)}, func(c drawn) {
				f := want[[2]bool{c.lower != none, c.upper != none}]
				x, j := c.known(c.x, []api.Dyad{q}, 3), c.known(c.j, []api.Dyad{q}, 3)
				slope := c.slopes([]api.Ivl{some(q, q)}, 128)[0]
				if !isNear(x, f[0]) || !isNear(j, f[1]) || !isNear(slope, f[2]) {
					t.Errorf("%s at %v: %s, %s, slope %s, want %v", shownTape(madeBy(c.maker)), u, shown(x), shown(j), shown(slope), f)
				}
			})
		}
	}
}

// P20.3: at 0, in the middle between 0 and 1, the slope is exactly 1/4.
func TestMiddle(t *testing.T) {
	m := newMaker(t, 100)
	u := must(m.Par())
	c := draw(t, m, u, must(m.Num(ratio(0, 1))), must(m.Num(ratio(1, 1))))
	is := func(a api.Ivl, want string) bool {
		return a.Kind == api.IvSome && !less(a.Lo, num(want)) && !less(num(want), a.Lo) && !less(a.Hi, num(want)) && !less(num(want), a.Hi)
	}
	x := c.known(c.x, nums("0"), 0)
	slope := c.slopes([]api.Ivl{some(num("0"), num("0"))}, 32)[0]
	if j := c.known(c.j, nums("0"), 2); !is(x, "1p-1") || !is(slope, "1p-2") || !isNear(j, -2*math.Ln2) {
		t.Errorf("%s, %s, slope %s", shown(x), shown(j), shown(slope))
	}
}

// P20.3: u that is a step of others, and bounds that are parameters: by u the parameter grows as fast.
func TestSlopesOfSteps(t *testing.T) {
	q := nums("3p-2", "-5p-1", "7", "1p-3")
	var box []api.Ivl
	for _, x := range q {
		box = append(box, some(x, x))
	}
	m := newMaker(t, 200)
	a, lower, upper, b := must(m.Par()), must(m.Par()), must(m.Par()), must(m.Par())
	three := must(m.Num(ratio(3, 1)))
	u := must(m.Two(api.NdAdd, must(m.Two(api.NdMul, three, a)), b))
	tripled := func(a api.Ivl) api.Ivl {
		by := func(x api.Dyad) api.Dyad {
			n := bigOf(x.M)
			return odd(n.Mul(n, big.NewInt(3)), x.E)
		}
		return some(by(a.Lo), by(a.Hi))
	}
	eachRow(lower, upper, func(lower, upper int) {
		c := draw(t, m, u, lower, upper)
		slopes := c.slopes(box, 500)
		want := c.growthIn(box, 500)
		byA, byB := magnitude(slopes[0], c.falls()), magnitude(slopes[3], c.falls())
		if !meet(byB, want) || !meet(byA, tripled(want)) || !isNarrow(byA, 100) || !isNarrow(byB, 100) || !isNarrow(want, 100) {
			t.Errorf("%s: the slopes are %s, %s, want %s", shownTape(madeBy(c.maker)), shown(byA), shown(byB), shown(want))
		}
	})
}

// P20.2, P20.3: charts that share their bounds, and many steps.
func TestSharedBounds(t *testing.T) {
	m := newMaker(t, 1000)
	lower, upper := must(m.Num(ratio(-1, 3))), must(m.Num(ratio(5, 2)))
	var us []int
	var q []api.Dyad
	var box []api.Ivl
	for i := range 6 {
		us = append(us, must(m.Par()))
		q = append(q, odd(big.NewInt(int64(7*i-19)), -2))
		box = append(box, some(q[i], q[i]))
	}
	var all []drawn
	for _, u := range us {
		eachRow(lower, upper, func(lower, upper int) { all = append(all, draw(t, m, u, lower, upper)) })
	}
	for i, c := range all {
		slopes := c.slopes(box, 300)
		for k, a := range slopes {
			if k != i/4 && (a.Kind != api.IvSome || slices.ContainsFunc([]api.Dyad{a.Lo, a.Hi}, func(x api.Dyad) bool { return len(x.M.M) > 0 })) {
				t.Errorf("chart %d has the slope %s by the parameter %d", i, shown(a), k)
			}
		}
		if !meet(magnitude(slopes[i/4], c.falls()), c.growthIn(box, 300)) {
			t.Errorf("chart %d has the slope %s", i, shown(slopes[i/4]))
		}
		if c.x != us[i/4] {
			c.isInside(c.known(c.x, q, 20), q, 20, true)
		}
	}
}
