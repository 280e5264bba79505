package fore_test

import (
	"math"
	"math/big"
	"math/rand/v2"
	"slices"
	"strconv"
	"testing"

	"stepstone/api"
	"stepstone/fore"
	"stepstone/ivl"
)

// value is that of a step: a rational number; another one, which is not known here; perhaps one, perhaps none; none.
type value struct {
	what what
	x    *big.Rat
}

type what uint8

const (
	exact what = iota
	other
	perhaps
	none
)

func exactly(x *big.Rat) value {
	if x.Num().BitLen()+x.Denom().BitLen() > 4000 {
		return value{what: other}
	}
	return value{exact, x}
}

// squareRoot is exact, if there is one.
func squareRoot(x *big.Rat) value {
	n, d := new(big.Int).Sqrt(x.Num()), new(big.Int).Sqrt(x.Denom())
	if out := new(big.Rat).SetFrac(n, d); new(big.Rat).Mul(out, out).Cmp(x) == 0 {
		return value{exact, out}
	}
	return value{what: other}
}

func valueOfOne(op uint8, a value) value {
	switch {
	case a.what != exact && (op == api.NdNeg || op == api.NdExp):
		return value{what: a.what}
	case a.what != exact:
		return value{what: max(a.what, perhaps)}
	case op == api.NdNeg:
		return value{exact, new(big.Rat).Neg(a.x)}
	case op == api.NdExp && a.x.Sign() == 0:
		return value{exact, big.NewRat(1, 1)}
	case op == api.NdExp:
		return value{what: other}
	case a.x.Sign() <= 0:
		return value{what: none}
	case op == api.NdRoot:
		return squareRoot(a.x)
	case op == api.NdNeed, a.x.Cmp(big.NewRat(1, 1)) == 0:
		return value{exact, new(big.Rat)}
	}
	return value{what: other}
}

func valueOfTwo(op uint8, a, b value) value {
	out := max(a.what, b.what)
	switch {
	case out == none, op == api.NdDiv && b.what == exact && b.x.Sign() == 0:
		return value{what: none}
	case op == api.NdDiv && b.what != exact:
		return value{what: perhaps}
	case out != exact:
		return value{what: out}
	case op == api.NdAdd:
		return exactly(new(big.Rat).Add(a.x, b.x))
	case op == api.NdSub:
		return exactly(new(big.Rat).Sub(a.x, b.x))
	case op == api.NdMul:
		return exactly(new(big.Rat).Mul(a.x, b.x))
	}
	return exactly(new(big.Rat).Quo(a.x, b.x))
}

// values are those of all steps at a point.
func values(x api.Tape, point []*big.Rat) []value {
	var l []value
	for _, n := range x.Nodes {
		switch {
		case n.Op == api.NdNum:
			l = append(l, value{exact, valueOf(n.C)})
		case n.Op == api.NdPar:
			l = append(l, value{exact, point[n.A]})
		case slices.Contains(opsOfOne(), n.Op):
			l = append(l, valueOfOne(n.Op, l[n.A]))
		default:
			l = append(l, valueOfTwo(n.Op, l[n.A], l[n.B]))
		}
	}
	return l
}

// around is a box with a rational point in it: next to the point, or further away.
func around(g *rand.Rand, point []*big.Rat) []api.Ivl {
	var box []api.Ivl
	for _, x := range point {
		bits := 1 + g.IntN(70)
		off := oneOf(g, new(big.Rat), new(big.Rat), big.NewRat(1, 1<<40), big.NewRat(1, 100), big.NewRat(1+g.Int64N(9), 2))
		box = append(box, between(new(big.Rat).Sub(x, off), new(big.Rat).Add(x, off), bits))
		if g.IntN(20) == 0 {
			box[len(box)-1] = unknown()
		}
	}
	return box
}

// holds checks what is known of each step against its value at a point of the box, and counts what was met.
func holds(t *testing.T, x api.Tape, box []api.Ivl, p int, point []*big.Rat, met map[string]int) {
	t.Helper()
	l, e := fore.Run(x, box, p)
	if e != api.OK {
		t.Fatalf("Run of %s, %s: %d", shownTape(x), shown(box...), e)
	}
	for i, v := range values(x, point) {
		op := "Op " + strconv.Itoa(int(x.Nodes[i].Op))
		bad := false
		switch {
		case v.what == exact:
			bad = !contains(l[i], v.x)
			met[op]++
			if l[i].Kind == api.IvSome {
				met[op+" with bounds"]++
			}
		case v.what == other:
			bad = l[i].Kind == api.IvUndef
		case v.what == none:
			bad = l[i].Kind == api.IvSome
			met["none"]++
		}
		if l[i].Kind == api.IvUndef {
			met["IvUndef"]++
		}
		if bad {
			t.Errorf("%s, %s, %d bits: step %d is %s, but its value is of kind %d, %s", shownTape(x), shown(box...), p, i, shown(l[i]), v.what, v.x)
		}
	}
}

func anyRationals(g *rand.Rand, n int) []*big.Rat {
	var out []*big.Rat
	for range n {
		out = append(out, big.NewRat(g.Int64N(21)-6, 1+g.Int64N(6)))
	}
	return out
}

// P18.4: boxes around rational points.
func TestHolds(t *testing.T) {
	g := rand.New(rand.NewPCG(18, 10))
	met := map[string]int{}
	for range 6000 {
		x := anyTape(g, 20)
		point := anyRationals(g, x.Pars)
		holds(t, x, around(g, point), oneOf(g, 1, 2, 5, 32, 64, 1+g.IntN(200)), point, met)
	}
	for op := api.NdNum; op <= api.NdNeed; op++ {
		for _, what := range []string{"Op " + strconv.Itoa(int(op)), "Op " + strconv.Itoa(int(op)) + " with bounds"} {
			if met[what] < 100 {
				t.Errorf("only %d of %s", met[what], what)
			}
		}
	}
	if met["none"] < 500 || met["IvUndef"] < 500 {
		t.Errorf("only %d steps without a value, %d that are IvUndef", met["none"], met["IvUndef"])
	}
}

// P18.4: several points of one box, both ends among them.
func TestHoldsInBox(t *testing.T) {
	g := rand.New(rand.NewPCG(18, 11))
	met := map[string]int{}
	for range 1000 {
		x := anyTape(g, 15)
		var box []api.Ivl
		for range x.Pars {
			lo, hi := extremes(ratOf(anyNumber(g)), ratOf(anyNumber(g)))
			box = append(box, between(lo, hi, 200))
		}
		for k := range int64(8) {
			var point []*big.Rat
			for _, a := range box {
				step := new(big.Rat).Mul(width(a), big.NewRat(k, 7))
				point = append(point, step.Add(step, ratOf(a.Lo)))
			}
			holds(t, x, box, 40, point, met)
		}
	}
	if met["Op 6 with bounds"] < 500 || met["IvUndef"] < 100 {
		t.Errorf("only %v", met)
	}
}

// P18.4: polynomials and quotients of them, which have values nearly everywhere, by steps that hang together.
func TestHoldsLong(t *testing.T) {
	g := rand.New(rand.NewPCG(18, 12))
	met := map[string]int{}
	for range 200 {
		l := []api.Node{par(0), par(1), number(1+g.Int64N(9), 7)}
		for range 30 {
			n := len(l)
			l = append(l, two(oneOf(g, opsOfTwo()...), n-1-g.IntN(3), g.IntN(n)))
		}
		point := anyRationals(g, 2)
		holds(t, tapeOf(2, l...), around(g, point), oneOf(g, 8, 64, 300), point, met)
	}
	if met["Op 3 with bounds"] < 300 {
		t.Errorf("only %v", met)
	}
}

// P18.4: what is computed to few bits, and to many, contains the same value: so it has something in common.
func TestHoldsAtAllBits(t *testing.T) {
	g := rand.New(rand.NewPCG(18, 13))
	count := 0
	for range 300 {
		x := anyTape(g, 20)
		box := pointOf(anyPoint(g, x.Pars))
		fine, _ := fore.Run(x, box, 1000)
		for _, p := range []int{1, 2, 7, 33, 100} {
			l, _ := fore.Run(x, box, p)
			for i := range l {
				if l[i].Kind != api.IvSome || fine[i].Kind != api.IvSome {
					continue
				}
				count++
				if ivl.Both(l[i], fine[i]).Kind != api.IvSome {
					t.Errorf("%s, %s: step %d is %s with %d bits, but %s", shownTape(x), shown(box...), i, shown(l[i]), p, shown(fine[i]))
				}
			}
		}
	}
	if count < 5000 {
		t.Errorf("only %d steps", count)
	}
}

// formula is a tape of two parameters, and what floats say of it.
type formula struct {
	nodes []api.Node
	float func(x, y float64) float64
}

func formulas() []formula {
	start := func(l ...api.Node) []api.Node { return append([]api.Node{par(0), par(1)}, l...) }
	return []formula{
		{start(one(api.NdExp, 0)), func(x, y float64) float64 { return math.Exp(x) }},
		{start(two(api.NdMul, 0, 0), one(api.NdExp, 2), one(api.NdLog, 1), two(api.NdDiv, 3, 4)), func(x, y float64) float64 { return math.Exp(x*x) / math.Log(y) }},
		{start(one(api.NdRoot, 1), one(api.NdNeg, 2), one(api.NdExp, 3)), func(x, y float64) float64 { return math.Exp(-math.Sqrt(y)) }},
		{start(two(api.NdSub, 0, 1), two(api.NdMul, 2, 2), number(-1, 2), two(api.NdMul, 3, 4), one(api.NdLog, 1), two(api.NdSub, 5, 6)), func(x, y float64) float64 { return -(x-y)*(x-y)/2 - math.Log(y) }},
		{start(one(api.NdExp, 0), number(1, 1), two(api.NdAdd, 2, 3), one(api.NdLog, 4), one(api.NdNeed, 1), two(api.NdAdd, 5, 6)), func(x, y float64) float64 { return math.Log1p(math.Exp(x)) }},
		{start(one(api.NdRoot, 1), one(api.NdRoot, 2), one(api.NdRoot, 3), two(api.NdMul, 0, 4)), func(x, y float64) float64 { return x * math.Pow(y, 0.125) }},
	}
}

// P18.3, P18.4: ordinary formulas, as floats have them.
func TestFormulas(t *testing.T) {
	for _, f := range formulas() {
		for _, x := range []string{"0", "1p-3", "-1p-1", "3p-1", "-7p-1", "5"} {
			for _, y := range []string{"1p-2", "3p-2", "5p-2", "2", "29"} {
				fx, _ := ratOf(num(x)).Float64()
				fy, _ := ratOf(num(y)).Float64()
				a := at(t, tapeOf(2, f.nodes...), nums(x, y), 3)
				if a.Kind != api.IvSome {
					t.Errorf("at %s, %s: %s", x, y, shown(a))
					continue
				}
				lo, _ := ratOf(a.Lo).Float64()
				hi, _ := ratOf(a.Hi).Float64()
				if want := f.float(fx, fy); math.Abs(lo-want) > 1e-12*(1+math.Abs(want)) || math.Abs(hi-want) > 1e-12*(1+math.Abs(want)) {
					t.Errorf("at %s, %s: from %v to %v, want %v", x, y, lo, hi, want)
				}
			}
		}
	}
}

// view is a tape at a point: from which level on it is known, and how many of the level's bits its width does not have.
type view struct {
	name  string
	tape  api.Tape
	q     []api.Dyad
	first int
	loss  int
}

// third is 1/3 to so many bits.
func third(p int, up bool) []api.Dyad { return []api.Dyad{rounded(big.NewRat(1, 3), p, up)} }

// ofDistance is a tape with a step of the distance of the parameter from 1/3.
func ofDistance(l ...api.Node) api.Tape {
	return tapeOf(1, append([]api.Node{par(0), number(1, 3), two(api.NdSub, 0, 1)}, l...)...)
}

func views() []view {
	l := []view{
		{"1/3", tapeOf(0, number(1, 3)), nil, 0, 0},
		{"a number that has an end", tapeOf(0, number(5, 4)), nil, 0, 0},
		{"a parameter", tapeOf(1, par(0)), nums("3p-5"), 0, 0},
		{"0 divided", tapeOf(1, par(0), number(7, 3), two(api.NdDiv, 0, 1)), nums("0"), 0, 0},
		{"e", tapeOf(1, par(0), one(api.NdExp, 0)), nums("1"), 0, 2},
		{"e to the power of 1/3", tapeOf(0, number(1, 3), one(api.NdExp, 0)), nil, 0, 3},
		{"the logarithm of 2", tapeOf(1, par(0), one(api.NdLog, 0)), nums("2"), 0, 0},
		{"the root of 2", tapeOf(1, par(0), one(api.NdRoot, 0)), nums("2"), 0, 1},
		{"the logarithm of a power of e", tapeOf(1, par(0), one(api.NdExp, 0), one(api.NdLog, 1)), nums("3"), 0, 3},
		{"a power of e that is great", tapeOf(1, par(0), one(api.NdExp, 0)), nums("700"), 0, 1010},
		{"a power of e that is small", tapeOf(1, par(0), one(api.NdExp, 0)), nums("-700"), 0, 0},
		{"ordinary", ordinary(), nums("1", "-1", "5"), 0, 10},
		{"the power of a logarithm", tapeOf(1, par(0), one(api.NdLog, 0), number(1, 3), two(api.NdMul, 1, 2), one(api.NdExp, 3)), nums("29"), 0, 8},
		{"a distance", ofDistance(), third(100, true), 0, 3},
	}
	for bits, first := range map[int]int{20: 0, 100: 3, 200: 6, 900: 28} {
		// The distance is between 2^-(bits+3) and 2^-(bits+1).
		n := " of a distance of " + strconv.Itoa(bits) + " bits"
		l = append(l,
			view{"the need" + n, ofDistance(one(api.NdNeed, 2)), third(bits, true), first, 0},
			view{"the logarithm" + n, ofDistance(one(api.NdLog, 2)), third(bits, true), first, bits + 8},
			view{"the root" + n, ofDistance(one(api.NdRoot, 2)), third(bits, true), first, bits/2 + 8},
			view{"the inverse" + n, ofDistance(two(api.NdDiv, 1, 2)), third(bits, true), first, 2*bits + 10},
			view{"the inverse, from below," + n, ofDistance(two(api.NdDiv, 1, 2)), third(bits, false), first, 2*bits + 10},
			view{"the square" + n, ofDistance(two(api.NdMul, 2, 2)), third(bits, true), 0, 0},
			view{"the quotient by itself" + n, ofDistance(two(api.NdDiv, 2, 2)), third(bits, true), first, bits + 8},
		)
	}
	return l
}

// P18.5: rows of levels at one point.
func TestNarrow(t *testing.T) {
	for _, v := range views() {
		for level := range mostLevel + 1 {
			a := at(t, v.tape, v.q, level)
			switch {
			case level < v.first && a.Kind != api.IvUnknown:
				t.Errorf("%s, level %d: %s, want IvUnknown", v.name, level, shown(a))
			case level >= v.first && !isNarrow(a, max(0, 32*(level+1)-v.loss)) && 32*(level+1) > v.loss:
				t.Errorf("%s, level %d: %s, %v wide", v.name, level, shown(a), logOf(width(a)))
			case level >= v.first && a.Kind != api.IvSome:
				t.Errorf("%s, level %d: %s, want IvSome", v.name, level, shown(a))
			}
		}
	}
}

// logOf is the binary logarithm, about.
func logOf(x *big.Rat) int { return x.Num().BitLen() - x.Denom().BitLen() }

// P18.5: for each number above 0 there is a level from which on At is narrower.
func TestNarrower(t *testing.T) {
	for _, v := range views() {
		for _, bits := range []int{-20, 0, 10, 64, 200, 500, 900} {
			d := small(1, -bits)
			// The bits that are lost are lost at each level.
			first := max(v.first, (bits+v.loss+31)/32-1)
			for level := first; level <= mostLevel; level++ {
				a, e := fore.At(v.tape, v.q, level)
				if e != api.OK || !ivl.Narrow(a, d) {
					t.Errorf("%s, level %d: %s, %d, is not as narrow as %s", v.name, level, shown(a), e, shownNumber(d))
				}
			}
		}
	}
}

// P18.5: random tapes, from the first level on at which they are known.
func TestNarrowAny(t *testing.T) {
	g := rand.New(rand.NewPCG(18, 14))
	count := 0
	for range 500 {
		x := anyTape(g, 20)
		q := anyPoint(g, x.Pars)
		last, _ := fore.At(x, q, mostLevel)
		if last.Kind != api.IvSome {
			continue
		}
		before := unknown()
		for level := range mostLevel + 1 {
			a, e := fore.At(x, q, level)
			if e != api.OK || before.Kind == api.IvSome && (a.Kind != api.IvSome || width(a).Cmp(width(before)) > 0) || ivl.Both(a, last).Kind != api.IvSome {
				t.Errorf("%s, %s, level %d: %s, %d, and %s before, %s at last", shownTape(x), shownPoint(q), level, shown(a), e, shown(before), shown(last))
			}
			before = a
		}
		size, _ := extremes(new(big.Rat).Abs(ratOf(last.Lo)), new(big.Rat).Abs(ratOf(last.Hi)))
		if width(last).Sign() != 0 {
			count++
			if logOf(width(last)) > max(0, logOf(size))-300 {
				t.Errorf("%s, %s: %s is still wide", shownTape(x), shownPoint(q), shown(last))
			}
		}
	}
	if count < 100 {
		t.Errorf("only %d tapes", count)
	}
}

// P18.5: where Out has no value, no level tells one.
func TestNowhere(t *testing.T) {
	tapes := []api.Tape{
		ofDistance(one(api.NdNeed, 2)), ofDistance(one(api.NdLog, 2)), ofDistance(one(api.NdRoot, 2)), ofDistance(one(api.NdRoot, 2), one(api.NdExp, 3)),
		tapeOf(1, number(1, 3), number(1, 3), two(api.NdSub, 0, 1), two(api.NdDiv, 0, 2)),
	}
	for _, x := range tapes {
		for level := range mostLevel + 1 {
			if a := at(t, x, third(100, false), level); a.Kind == api.IvSome || level > 3 && x.Nodes[0].Op == api.NdPar && a.Kind != api.IvUndef {
				t.Errorf("%s, level %d: %s", shownTape(x), level, shown(a))
			}
		}
	}
}

// within tells whether all of an interval is in another one.
func within(inner, outer api.Ivl) bool {
	return ratOf(outer.Lo).Cmp(ratOf(inner.Lo)) <= 0 && ratOf(inner.Hi).Cmp(ratOf(outer.Hi)) <= 0
}

// shrunk is a box within a box: each interval is cut at either end, at both, or not at all.
func shrunk(g *rand.Rand, box []api.Ivl) []api.Ivl {
	out := slices.Clone(box)
	for i, a := range box {
		if a.Kind == api.IvUnknown && g.IntN(2) == 0 {
			out[i] = anyKnown(g)
		}
		if a.Kind != api.IvSome {
			continue
		}
		lo, hi, w := ratOf(a.Lo), ratOf(a.Hi), width(a)
		if g.IntN(3) > 0 {
			lo.Add(lo, new(big.Rat).Mul(w, big.NewRat(g.Int64N(6), 16)))
		}
		if g.IntN(3) > 0 {
			hi.Sub(hi, new(big.Rat).Mul(w, big.NewRat(g.Int64N(6), 16)))
		}
		// Sums of dyadic numbers are dyadic: so many bits are enough for them.
		out[i] = between(lo, hi, 4000)
	}
	return out
}

// middles is a point in a box.
func middles(box []api.Ivl) []api.Ivl {
	var out []api.Ivl
	for _, a := range box {
		if a.Kind == api.IvSome {
			m := new(big.Rat).Add(ratOf(a.Lo), ratOf(a.Hi))
			m.Mul(m, big.NewRat(1, 2))
			a = between(m, m, 4000)
		}
		out = append(out, a)
	}
	return out
}

// P18.6: a box, and boxes within it, down to a point.
func TestWithin(t *testing.T) {
	g := rand.New(rand.NewPCG(18, 15))
	met := map[uint8]int{}
	for range 600 {
		x := anyTape(g, 20)
		p := oneOf(g, 1, 2, 3, 16, 64, 1+g.IntN(100))
		boxes := [][]api.Ivl{anyBox(g, x.Pars)}
		for i := range 6 {
			boxes = append(boxes, shrunk(g, boxes[i]))
		}
		boxes = append(boxes, middles(boxes[6]))
		var rows [][]api.Ivl
		for _, box := range boxes {
			l, e := fore.Run(x, box, p)
			if e != api.OK {
				t.Fatalf("Run of %s, %s: %d", shownTape(x), shown(box...), e)
			}
			rows = append(rows, l)
		}
		for j, outer := range rows {
			for k, inner := range rows[j+1:] {
				for i, n := range x.Nodes {
					if outer[i].Kind != api.IvSome || inner[i].Kind != api.IvSome {
						continue
					}
					if !same(outer[i], inner[i]) {
						met[n.Op]++
					}
					if !within(inner[i], outer[i]) {
						t.Errorf("%s, %d bits: step %d is %s of %s, but %s of %s", shownTape(x), p, i, shown(outer[i]), shown(boxes[j]...), shown(inner[i]), shown(boxes[j+1+k]...))
					}
				}
			}
		}
	}
	for op := api.NdPar; op < api.NdNeed; op++ {
		if met[op] < 200 {
			t.Errorf("only %d steps with Op %d", met[op], op)
		}
	}
}

// P18.6: each Op, by boxes that lie one within the other.
func TestWithinOps(t *testing.T) {
	rows := [][]string{
		{"-8 9", "-8 0", "-3 -1p-1", "-2 -1", "-3p-1"}, {"1p-9 1p9", "1p-2 9", "1 9", "1 3", "2 2"},
		{"-1 1", "-1p-9 1p-7", "-1p-30 0", "0 0"}, {"-5 7", "-1 6", "0 5", "1p-40 1p-2"},
	}
	for _, op := range slices.Concat(opsOfOne(), opsOfTwo()) {
		for _, a := range rows {
			for _, b := range rows {
				last := []api.Ivl{}
				for i := range max(len(a), len(b)) {
					box := []api.Ivl{known(a[min(i, len(a)-1)]), known(b[min(i, len(b)-1)])}
					l := runs(t, tapeOf(2, par(0), par(1), api.Node{Op: op, B: bit(slices.Contains(opsOfTwo(), op))}), box, 5)
					for k := range last {
						if last[k].Kind == api.IvSome && l[k].Kind == api.IvSome && !within(l[k], last[k]) {
							t.Errorf("Op %d of %s: step %d is %s, but %s before", op, shown(box...), k, shown(l[k]), shown(last[k]))
						}
					}
					last = l
				}
			}
		}
	}
}

func bit(is bool) int {
	if is {
		return 1
	}
	return 0
}
