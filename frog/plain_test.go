package frog_test

import (
	"math/big"
	"slices"

	"stepstone/api"
	"stepstone/back"
	"stepstone/tape"
)

// The model: what the chapter says, in a plain way, with the library's numbers. What gets too long ends it by a panic.

// valid is the number, or nil for what is none.
func valid(a api.Frac) *big.Rat {
	n, d := bigOf(a.N), bigOf(api.Int{M: a.D})
	if d.BitLen() == 0 || d.BitLen() > mostBits || n.BitLen() > mostBits {
		return nil
	}
	return ratio(n, d)
}

func isAbove0(a api.Frac) bool {
	x := valid(a)
	return x != nil && x.Sign() > 0
}

func checked(t api.Tape, f api.Frog) api.Errno {
	if tape.Check(t) != api.OK {
		return api.ErrTape
	}
	ok := f.Grid >= 0 && f.Grid <= mostGrid && f.Level >= 0 && f.Level <= mostLevel && f.Count >= 0 && f.Count <= mostCount
	ok = ok && isAbove0(f.Step) && len(f.Mass) == t.Pars
	for _, m := range f.Mass {
		ok = ok && isAbove0(m)
	}
	if !ok {
		return api.ErrArg
	}
	return api.OK
}

// accepted tells the error of a call that is given such lists.
func accepted(t api.Tape, f api.Frog, lists ...[]api.Int) api.Errno {
	if e := checked(t, f); e != api.OK {
		return e
	}
	for _, l := range lists {
		if len(l) != t.Pars {
			return api.ErrArg
		}
		if slices.ContainsFunc(l, func(a api.Int) bool { return bigOf(a).BitLen() > fineBits }) {
			return api.ErrArg
		}
	}
	return api.OK
}

func fits(n *big.Int) *big.Int {
	if n.BitLen() > mostBits {
		panic(api.ErrBig)
	}
	return n
}

func product(a, b *big.Int) *big.Int { return fits(new(big.Int).Mul(a, b)) }

func times(a, b *big.Rat) *big.Rat {
	return ratio(product(a.Num(), b.Num()), product(a.Denom(), b.Denom()))
}

func over(a, b *big.Rat) *big.Rat {
	return ratio(product(a.Num(), b.Denom()), product(a.Denom(), b.Num()))
}

func floor(x *big.Rat) *big.Int { return new(big.Int).Div(x.Num(), x.Denom()) }

func halfUp(x *big.Rat) *big.Int { return fits(floor(new(big.Rat).Add(x, rat(1, 2)))) }

// byMagnitude rounds half away from 0.
func byMagnitude(x *big.Rat) *big.Int {
	n := halfUp(new(big.Rat).Abs(x))
	if x.Sign() < 0 {
		n.Neg(n)
	}
	return n
}

// middle is the middle of an interval, in so fine a grid, rounded down; 0 where it is not known, or can't be computed.
func middle(a api.Ivl, fine int) *big.Int {
	none := new(big.Int)
	if a.Kind != api.IvSome {
		return none
	}
	lo, hi := bigOf(a.Lo.M), bigOf(a.Hi.M)
	least := min(a.Lo.E, a.Hi.E)
	switch {
	case lo.Sign() == 0:
		least = a.Hi.E
	case hi.Sign() == 0:
		least = a.Lo.E
	case lo.BitLen()+a.Lo.E-least > mostBits || hi.BitLen()+a.Hi.E-least > mostBits:
		return none
	}
	// A 0 has any exponent.
	lo.Lsh(lo, uint(max(a.Lo.E-least, 0)))
	hi.Lsh(hi, uint(max(a.Hi.E-least, 0)))
	half := odd(lo.Add(lo, hi), least-1)
	if half.E < -far || half.E > far {
		return none
	}
	n := bigOf(half.M)
	if by := half.E + fine; by >= 0 {
		n.Lsh(n, uint(by))
	} else {
		n.Rsh(n, uint(-by))
	}
	if n.BitLen() > mostBits {
		return none
	}
	return n
}

// pointAt is the box of a place.
func pointAt(q []*big.Int, grid int) []api.Ivl {
	var out []api.Ivl
	for _, n := range q {
		x := odd(n, -grid)
		out = append(out, api.Ivl{Kind: api.IvSome, Lo: x, Hi: x})
	}
	return out
}

func numbersAt(t api.Tape, f api.Frog, q []*big.Int) []*big.Rat {
	out, slopes, e := back.Of(t, pointAt(q, f.Grid), 32*(f.Level+1))
	if e != api.OK {
		panic(e)
	}
	fine := 2*f.Grid + 8
	var all []*big.Rat
	for _, s := range slopes {
		if out.Kind != api.IvSome {
			s = api.Ivl{}
		}
		all = append(all, ratio(middle(s, fine), pow2(fine)))
	}
	return all
}

// moves computes a move; q and p are changed.
func moves(t api.Tape, f api.Frog, q, p []*big.Int) {
	step, grid := valid(f.Step), whole(pow2(f.Grid))
	kick := func() {
		h := over(step, rat(2, 1))
		for i, x := range numbersAt(t, f, q) {
			p[i] = fits(new(big.Int).Add(p[i], halfUp(times(times(h, x), grid))))
		}
	}
	for range f.Count {
		kick()
		for i, m := range f.Mass {
			q[i] = fits(new(big.Int).Add(q[i], byMagnitude(over(times(step, whole(p[i])), valid(m)))))
		}
		kick()
	}
	for i := range p {
		p[i] = minus(p[i])
		if p[i].BitLen() > fineBits || q[i].BitLen() > fineBits {
			panic(api.ErrBig)
		}
	}
}

// movedTo is a move's place and push, or its error.
func movedTo(t api.Tape, f api.Frog, at, by []api.Int) (q, p []*big.Int, e api.Errno) {
	if e := accepted(t, f, at, by); e != api.OK {
		return nil, nil, e
	}
	defer func() {
		if r := recover(); r != nil {
			q, p, e = nil, nil, r.(api.Errno)
		}
	}()
	q, p = bigsOf(at), bigsOf(by)
	moves(t, f, q, p)
	return q, p, api.OK
}
