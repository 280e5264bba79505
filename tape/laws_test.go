package tape_test

import (
	"math/big"
	"math/rand/v2"
	"slices"
	"strconv"
	"testing"

	"stepstone/api"
	"stepstone/tape"
)

// someNumber is a number that is one of few, in one of several ways, or none.
func someNumber(g *rand.Rand) api.Frac {
	switch g.IntN(8) {
	case 0:
		return oneOf(g, otherwise()[:10]...)
	case 1:
		return oneOf(g, noNumbers()...)
	default:
		d := 1 + g.Int64N(4)
		return ratio(g.Int64N(9)-4, d)
	}
}

// anyCall makes one call, mostly a right one.
func anyCall(g *rand.Rand, b *both) {
	n := b.maker.Len()
	at := func() int {
		if g.IntN(12) == 0 {
			return g.IntN(n+4) - 2
		}
		return g.IntN(max(n, 1))
	}
	switch k := g.IntN(20); {
	case k < 4:
		b.num(someNumber(g))
	case k < 6:
		b.par()
	case k < 10:
		b.one(oneOf(g, opsOfOne()...), at())
	case k < 15:
		b.two(oneOf(g, opsOfTwo()...), at(), at())
	case k < 16:
		b.one(uint8(g.IntN(14)), at())
	case k < 17:
		b.two(uint8(g.IntN(14)), at(), at())
	default:
		b.tape(at(), []api.Tell{tell("a", at()), tell("", at()), tell("a", at())}[:g.IntN(4)]...)
	}
}

// P17.2 to P17.5: random rows of calls: held against the model, which also checks each tape that is made, and that steps stay where they were.
func TestAnyCalls(t *testing.T) {
	g := rand.New(rand.NewPCG(17, 10))
	for i := range 400 {
		b := newBoth(t, 1+g.IntN(60))
		for range 120 {
			anyCall(g, b)
		}
		if n := b.maker.Len(); n == 0 && i > 0 {
			t.Error("no step was made")
		}
	}
}

// P17.5: each step of any tape is made again by the calls for it, at an index that has the same step in the tape that is made, or an equal one.
func TestMadeAgain(t *testing.T) {
	g := rand.New(rand.NewPCG(17, 11))
	for range 400 {
		x := anyTape(g, 40)
		b := newBoth(t, len(x.Nodes)+mostPars)
		for range x.Pars {
			b.par()
		}
		var at []int
		for _, n := range x.Nodes {
			switch {
			case n.Op == api.NdNum:
				at = append(at, b.num(n.C))
			case n.Op == api.NdPar:
				at = append(at, n.A)
			case slices.Contains(opsOfOne(), n.Op):
				at = append(at, b.one(n.Op, at[n.A]))
			default:
				at = append(at, b.two(n.Op, at[n.A], at[n.B]))
			}
		}
		made := b.tape(at[x.Out])
		r := newReals()
		pars := somePoint(g, x.Pars)
		if a, b := r.out(x, pars), r.out(made, pars); a != b {
			t.Errorf("the value of Out of %s is %s, but %s of %s", told(x), a, b, told(made))
		}
	}
}

// value is that of a step: none, a rational number, or a number that has a name of its own.
type value struct {
	none bool
	x    *big.Rat
	name string
}

// reals are exact: what is not rational, or too long, is known by the Op and the values that it is computed from.
type reals struct{ names map[string]string }

func newReals() *reals { return &reals{map[string]string{}} }

func (r *reals) named(op uint8, l ...value) value {
	key := strconv.Itoa(int(op))
	for _, v := range l {
		key += " " + v.text()
	}
	if r.names[key] == "" {
		r.names[key] = "#" + strconv.Itoa(len(r.names))
	}
	return value{name: r.names[key]}
}

func (v value) text() string {
	switch {
	case v.none:
		return "none"
	case v.x != nil:
		return v.x.RatString()
	}
	return v.name
}

func (r *reals) rational(x *big.Rat) value {
	if x.Num().BitLen()+x.Denom().BitLen() > 3000 {
		return r.named(0, value{x: x})
	}
	return value{x: x}
}

// squareRoot is exact, if there is one.
func squareRoot(x *big.Rat) (*big.Rat, bool) {
	n, d := new(big.Int).Sqrt(x.Num()), new(big.Int).Sqrt(x.Denom())
	out := new(big.Rat).SetFrac(n, d)
	return out, new(big.Rat).Mul(out, out).Cmp(x) == 0
}

func (r *reals) ofOne(op uint8, a value) value {
	if a.x == nil {
		return r.named(op, a)
	}
	switch sign := a.x.Sign(); {
	case op == api.NdNeg:
		return value{x: new(big.Rat).Neg(a.x)}
	case op == api.NdExp && sign == 0:
		return value{x: big.NewRat(1, 1)}
	case op == api.NdExp:
		return r.named(op, a)
	case sign <= 0:
		return value{none: true}
	case op == api.NdNeed:
		return value{x: new(big.Rat)}
	case op == api.NdLog && a.x.Cmp(big.NewRat(1, 1)) == 0:
		return value{x: new(big.Rat)}
	case op == api.NdRoot:
		if x, is := squareRoot(a.x); is {
			return value{x: x}
		}
	}
	return r.named(op, a)
}

func (r *reals) ofTwo(op uint8, a, b value) value {
	if op == api.NdDiv && b.x != nil && b.x.Sign() == 0 {
		return value{none: true}
	}
	if a.x == nil || b.x == nil {
		return r.named(op, a, b)
	}
	out := new(big.Rat)
	switch op {
	case api.NdAdd:
		out.Add(a.x, b.x)
	case api.NdSub:
		out.Sub(a.x, b.x)
	case api.NdMul:
		out.Mul(a.x, b.x)
	case api.NdDiv:
		out.Quo(a.x, b.x)
	}
	return r.rational(out)
}

// out is the value of Out, as a text.
func (r *reals) out(t api.Tape, pars []*big.Rat) string {
	var l []value
	for _, n := range t.Nodes {
		own := steps(n)
		switch {
		case slices.ContainsFunc(own, func(i int) bool { return l[i].none }):
			l = append(l, value{none: true})
		case n.Op == api.NdNum:
			l = append(l, value{x: valueOf(n.C)})
		case n.Op == api.NdPar:
			l = append(l, value{x: pars[n.A]})
		case len(own) == 1:
			l = append(l, r.ofOne(n.Op, l[n.A]))
		default:
			l = append(l, r.ofTwo(n.Op, l[n.A], l[n.B]))
		}
	}
	return l[t.Out].text()
}

func somePoint(g *rand.Rand, n int) []*big.Rat {
	var out []*big.Rat
	for range n {
		out = append(out, big.NewRat(g.Int64N(9)-2, 1+g.Int64N(3)))
	}
	return out
}

// without is a tape without some steps, the others being renumbered. They must not have any of those as theirs; what is told of those is told no more.
func without(t api.Tape, gone func(i int) bool) api.Tape {
	out := api.Tape{Pars: t.Pars}
	at := make([]int, len(t.Nodes))
	for i, n := range t.Nodes {
		if gone(i) {
			at[i] = -1
			continue
		}
		at[i] = len(out.Nodes)
		switch len(steps(n)) {
		case 2:
			n.B = at[n.B]
			fallthrough
		case 1:
			n.A = at[n.A]
		}
		out.Nodes = append(out.Nodes, n)
	}
	out.Out = at[t.Out]
	for _, x := range t.Tells {
		if x.At = at[x.At]; x.At >= 0 {
			out.Tells = append(out.Tells, x)
		}
	}
	return out
}

// P17.6: steps that are not live removed, all of them, and one by one.
func TestWithout(t *testing.T) {
	g := rand.New(rand.NewPCG(17, 12))
	met := map[string]int{}
	tapes := []api.Tape{ordinary(), tapeOf(0, num(1, 2)), tapeOf(3, num(4, 1), num(0, 1), num(9, 1), par(2), two(api.NdDiv, 0, 0))}
	for range 1500 {
		tapes = append(tapes, anyTape(g, 30))
	}
	for _, x := range tapes {
		live := tape.Live(x)
		r, pars := newReals(), somePoint(g, x.Pars)
		want := r.out(x, pars)
		lean := without(x, func(i int) bool { return !live[i] })
		check(t, lean)
		if tape.Check(lean) != api.OK || slices.Contains(tape.Live(lean), false) || r.out(lean, pars) != want {
			t.Errorf("%s is %s, but %s, %s", told(x), want, told(lean), r.out(lean, pars))
		}
		for k := range live {
			if live[k] {
				continue
			}
			alone := !slices.ContainsFunc(x.Nodes, func(n api.Node) bool { return slices.Contains(steps(n), k) })
			if !alone {
				continue
			}
			met["removed alone"]++
			less := without(x, func(i int) bool { return i == k })
			if tape.Check(less) != api.OK || r.out(less, pars) != want {
				t.Errorf("%s is %s, but without %d %s", told(x), want, k, r.out(less, pars))
			}
		}
		switch {
		case want == "none":
			met["none"]++
		case want[0] == '#':
			met["named"]++
		default:
			met["rational"]++
		}
	}
	for _, what := range []string{"removed alone", "none", "named", "rational"} {
		if met[what] < 100 {
			t.Errorf("%s: only %d", what, met[what])
		}
	}
}

// P17.6: a live step may not be replaced by another one: the value of Out hangs on each.
func TestLiveMatters(t *testing.T) {
	g := rand.New(rand.NewPCG(17, 13))
	count := 0
	for range 1500 {
		x := anyTape(g, 12)
		live := tape.Live(x)
		r, pars := newReals(), somePoint(g, x.Pars)
		want := r.out(x, pars)
		for i := range x.Nodes {
			was := x.Nodes[i]
			x.Nodes[i] = num(5*int64(g.IntN(100))+100003, 7)
			if got := r.out(x, pars); got != want {
				count++
				if !live[i] {
					t.Errorf("%s: %d is not live, but the value hangs on it", told(x), i)
				}
			}
			x.Nodes[i] = was
		}
	}
	if count < 1000 {
		t.Errorf("only %d changes", count)
	}
}
