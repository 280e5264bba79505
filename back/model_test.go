package back_test

import (
	"math/big"
	"slices"

	"stepstone/api"
	"stepstone/ivl"
)

// liveByHand tells which steps Out depends on.
func liveByHand(x api.Tape) []bool {
	live := make([]bool, len(x.Nodes))
	live[x.Out] = true
	for i := x.Out; i >= 0; i-- {
		n := x.Nodes[i]
		if live[i] && n.Op != api.NdNum && n.Op != api.NdPar {
			live[n.A] = true
			live[n.B] = live[n.B] || slices.Contains(opsOfTwo(), n.Op)
		}
	}
	return live
}

// sharesByHand are those of each step, read as the chapter says it.
func sharesByHand(x api.Tape, vals []api.Ivl, p int) []api.Ivl {
	shares := slices.Repeat(knowns("0"), len(x.Nodes))
	shares[x.Out] = known("1")
	live := liveByHand(x)
	for i := len(x.Nodes) - 1; i >= 0; i-- {
		n := x.Nodes[i]
		if !live[i] || n.Op == api.NdNum || n.Op == api.NdPar {
			continue
		}
		g, v, a, b := shares[i], vals[i], vals[n.A], vals[n.B]
		var byA, byB api.Ivl
		switch n.Op {
		case api.NdAdd:
			byA, byB = g, g
		case api.NdSub:
			byA, byB = g, ivl.Neg(g)
		case api.NdMul:
			byA, byB = ivl.Mul(g, b, p), ivl.Mul(g, a, p)
		case api.NdDiv:
			byA, byB = ivl.Div(g, b, p), ivl.Neg(ivl.Div(ivl.Mul(g, v, p), b, p))
		case api.NdNeg:
			byA = ivl.Neg(g)
		case api.NdExp:
			byA = ivl.Mul(g, v, p)
		case api.NdLog:
			byA = ivl.Div(g, a, p)
		case api.NdRoot:
			byA = ivl.Div(g, ivl.Add(v, v, p), p)
		}
		if n.Op != api.NdNeed {
			shares[n.A] = ivl.Add(shares[n.A], byA, p)
		}
		if slices.Contains(opsOfTwo(), n.Op) {
			shares[n.B] = ivl.Add(shares[n.B], byB, p)
		}
	}
	return shares
}

// byHand are the parameters' slopes, read as the chapter says it.
func byHand(x api.Tape, vals []api.Ivl, p int) []api.Ivl {
	var out []api.Ivl
	shares := sharesByHand(x, vals, p)
	for k := range x.Pars {
		sum := known("0")
		for i, n := range x.Nodes {
			if n.Op == api.NdPar && n.A == k {
				sum = ivl.Add(sum, shares[i], p)
			}
		}
		if kind := vals[x.Out].Kind; kind != api.IvSome {
			sum = api.Ivl{Kind: kind}
		}
		out = append(out, sum)
	}
	return out
}

// point is what is known of a step at a point, by rational numbers: its value, and how fast that grows with each parameter. Either is nil where it is not rational, or where it is not known whether there is one.
type point struct {
	x    *big.Rat
	d    []*big.Rat
	none bool
}

func zeros(n int) []*big.Rat {
	out := make([]*big.Rat, n)
	for i := range out {
		out[i] = new(big.Rat)
	}
	return out
}

func unit(n, k int) []*big.Rat {
	out := zeros(n)
	out[k].SetInt64(1)
	return out
}

// scaled is a list times a number.
func scaled(l []*big.Rat, by *big.Rat) []*big.Rat {
	var out []*big.Rat
	for _, x := range l {
		out = append(out, new(big.Rat).Mul(x, by))
	}
	return out
}

func added(a, b []*big.Rat) []*big.Rat {
	var out []*big.Rat
	for i := range a {
		out = append(out, new(big.Rat).Add(a[i], b[i]))
	}
	return out
}

// squareRoot is nil, if there is none that is rational.
func squareRoot(x *big.Rat) *big.Rat {
	n, d := new(big.Int).Sqrt(x.Num()), new(big.Int).Sqrt(x.Denom())
	if out := new(big.Rat).SetFrac(n, d); new(big.Rat).Mul(out, out).Cmp(x) == 0 {
		return out
	}
	return nil
}

func inverse(x *big.Rat) *big.Rat { return new(big.Rat).Inv(x) }

func negative(x *big.Rat) *big.Rat { return new(big.Rat).Neg(x) }

// pointOfOne goes forward, by the rules for derivatives, as the chapter goes backwards.
func pointOfOne(op uint8, a point) point {
	isMinus := op == api.NdNeg
	switch {
	case a.none || op != api.NdExp && !isMinus && a.x != nil && a.x.Sign() <= 0:
		return point{none: true}
	case isMinus && a.x != nil:
		return point{x: negative(a.x), d: scaled(a.d, big.NewRat(-1, 1))}
	case isMinus && a.d != nil:
		return point{d: scaled(a.d, big.NewRat(-1, 1))}
	case a.x == nil:
		return point{}
	case op == api.NdExp && a.x.Sign() == 0:
		return point{x: big.NewRat(1, 1), d: a.d}
	case op == api.NdNeed:
		return point{x: new(big.Rat), d: zeros(len(a.d))}
	case op == api.NdLog && a.x.Cmp(big.NewRat(1, 1)) == 0:
		return point{x: new(big.Rat), d: a.d}
	case op == api.NdLog:
		// The logarithm is not rational, but its derivative is.
		return point{d: scaled(a.d, inverse(a.x))}
	case op == api.NdRoot && squareRoot(a.x) != nil:
		y := squareRoot(a.x)
		return point{x: y, d: scaled(a.d, inverse(new(big.Rat).Add(y, y)))}
	}
	return point{}
}

// pointOfTwo is the same for an Op of two steps.
func pointOfTwo(op uint8, a, b point) point {
	minus := scaled(b.d, big.NewRat(-1, 1))
	hasValues, hasSlopes := a.x != nil && b.x != nil, a.d != nil && b.d != nil
	switch {
	case a.none || b.none || op == api.NdDiv && b.x != nil && b.x.Sign() == 0:
		return point{none: true}
	case hasValues && op == api.NdAdd:
		return point{x: new(big.Rat).Add(a.x, b.x), d: added(a.d, b.d)}
	case hasValues && op == api.NdSub:
		return point{x: new(big.Rat).Sub(a.x, b.x), d: added(a.d, minus)}
	case hasSlopes && op == api.NdAdd:
		return point{d: added(a.d, b.d)}
	case hasSlopes && op == api.NdSub:
		return point{d: added(a.d, minus)}
	case hasSlopes && op == api.NdDiv && b.x != nil && isZero(b.d):
		return point{d: scaled(a.d, inverse(b.x))}
	case !hasValues:
		return point{}
	case op == api.NdMul:
		return point{x: new(big.Rat).Mul(a.x, b.x), d: added(scaled(a.d, b.x), scaled(b.d, a.x))}
	}
	top := added(scaled(a.d, b.x), scaled(minus, a.x))
	return point{x: new(big.Rat).Quo(a.x, b.x), d: scaled(top, inverse(new(big.Rat).Mul(b.x, b.x)))}
}

func isZero(l []*big.Rat) bool {
	return !slices.ContainsFunc(l, func(x *big.Rat) bool { return x.Sign() != 0 })
}

// pointsOf are all steps at a point.
func pointsOf(x api.Tape, q []*big.Rat) []point {
	var l []point
	for _, n := range x.Nodes {
		var out point
		switch {
		case n.Op == api.NdNum:
			out = point{x: valueOf(n.C), d: zeros(x.Pars)}
		case n.Op == api.NdPar:
			out = point{x: q[n.A], d: unit(x.Pars, n.A)}
		case slices.Contains(opsOfOne(), n.Op):
			out = pointOfOne(n.Op, l[n.A])
		default:
			out = pointOfTwo(n.Op, l[n.A], l[n.B])
		}
		if out.x != nil && out.x.Num().BitLen()+out.x.Denom().BitLen() > 3000 {
			out = point{}
		}
		l = append(l, out)
	}
	return l
}
