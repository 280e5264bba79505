package weigh_test

import (
	"math/big"
	"slices"

	"stepstone/api"
	"stepstone/dyad"
	"stepstone/expo"
	"stepstone/fore"
	"stepstone/ivl"
	"stepstone/tape"
)

// The model: what the chapter says, in a plain way, with the library's numbers; what is known of Out, of a power, and of sums of such, are the calls of the layers that it names.

// valid is the number, or nil for what is none.
func valid(a api.Frac) *big.Rat {
	n, d := bigOf(a.N), bigOf(api.Int{M: a.D})
	if d.BitLen() == 0 || d.BitLen() > mostBits || n.BitLen() > mostBits {
		return nil
	}
	return ratio(n, d)
}

func isAbove0(a api.Frac) bool {
	x := valid(a)
	return x != nil && x.Sign() > 0
}

func fits(n *big.Int) *big.Int {
	if n.BitLen() > mostBits {
		panic(api.ErrLong)
	}
	return n
}

func product(a, b *big.Int) *big.Int { return fits(new(big.Int).Mul(a, b)) }

func times(a, b *big.Rat) *big.Rat {
	return ratio(product(a.Num(), b.Num()), product(a.Denom(), b.Denom()))
}

func over(a, b *big.Rat) *big.Rat {
	return ratio(product(a.Num(), b.Denom()), product(a.Denom(), b.Num()))
}

func plus(a, b *big.Rat) *big.Rat {
	n := fits(new(big.Int).Add(product(a.Num(), b.Denom()), product(b.Num(), a.Denom())))
	return ratio(n, product(a.Denom(), b.Denom()))
}

// fitting is what is computed, or nil and the error by which that was ended.
func fitting(compute func() *big.Rat) (x *big.Rat, e api.Errno) {
	defer func() {
		if r := recover(); r != nil {
			x, e = nil, r.(api.Errno)
		}
	}()
	return compute(), api.OK
}

func tooLong(l []api.Int) bool {
	return slices.ContainsFunc(l, func(n api.Int) bool { return bigOf(n).BitLen() > fineBits })
}

func isWay(f api.Frog, pars int) bool {
	ok := f.Grid >= 0 && f.Grid <= mostGrid && len(f.Mass) == pars
	for _, m := range f.Mass {
		ok = ok && isAbove0(m)
	}
	return ok
}

// weightBy is a push's weight, or the error.
func weightBy(f api.Frog, p []api.Int) (*big.Rat, api.Errno) {
	if !isWay(f, len(p)) || tooLong(p) {
		return nil, api.ErrArg
	}
	return fitting(func() *big.Rat {
		sum := rat(0, 1)
		for i, n := range p {
			x := ratio(bigOf(n), pow2(f.Grid))
			sum = plus(sum, over(times(x, x), times(rat(2, 1), valid(f.Mass[i]))))
		}
		return sum
	})
}

// accepted tells the error of a call that is given these.
func accepted(t api.Tape, f api.Frog, states ...api.State) api.Errno {
	if tape.Check(t) != api.OK {
		return api.ErrTape
	}
	ok := isWay(f, t.Pars) && isAbove0(f.Step)
	ok = ok && f.Level >= 0 && f.Level <= mostLevel && f.Count >= 0 && f.Count <= mostCount
	for _, s := range states {
		ok = ok && len(s.Q) == t.Pars && len(s.P) == t.Pars && !tooLong(s.Q) && !tooLong(s.P)
	}
	if !ok {
		return api.ErrArg
	}
	return api.OK
}

// outAt is what is known of Out at a place.
func outAt(t api.Tape, grid int, q []api.Int, level int) api.Ivl {
	var point []api.Dyad
	for _, n := range q {
		point = append(point, odd(bigOf(n), -grid))
	}
	out, e := fore.At(t, point, level)
	if e != api.OK {
		panic(e)
	}
	return out
}

func isSamePlace(a, b []api.Int) bool {
	return slices.EqualFunc(a, b, func(x, y api.Int) bool { return bigOf(x).Cmp(bigOf(y)) == 0 })
}

// gainBy needs what is accepted, and a level.
func gainBy(t api.Tape, f api.Frog, a, b api.State, level int) api.Ivl {
	p := 32 * (level + 1)
	grows := ivl.Sub(outAt(t, f.Grid, b.Q, level), outAt(t, f.Grid, a.Q, level), p)
	if isSamePlace(a.Q, b.Q) && outAt(t, f.Grid, a.Q, level).Kind == api.IvSome {
		grows = ivl.Of(0)
	}
	less, e := fitting(func() *big.Rat {
		w, e := weightBy(f, a.P)
		v, e2 := weightBy(f, b.P)
		if e != api.OK || e2 != api.OK {
			panic(api.ErrLong)
		}
		return plus(w, v.Neg(v))
	})
	if e != api.OK {
		return ivl.Add(grows, api.Ivl{}, p)
	}
	return ivl.Add(grows, ivl.Near(fracOf(less), p), p)
}

// dyadic is m times 2^e, for any e.
type dyadic struct {
	m *big.Int
	e int
}

func dyadicOf(a api.Dyad) dyadic { return dyadic{bigOf(a.M), a.E} }

func (a dyadic) minus(b dyadic) dyadic {
	e := min(a.e, b.e)
	x, y := new(big.Int).Lsh(a.m, uint(a.e-e)), new(big.Int).Lsh(b.m, uint(b.e-e))
	return dyadic{x.Sub(x, y), e}
}

func (a dyadic) isAbove(b dyadic) bool { return a.minus(b).m.Sign() > 0 }

// answer is what Weigh tells, and what the source does then.
type answer struct {
	v    api.Verdict
	e    api.Errno
	read int
	dry  bool
}

// reached are the ways by which a proposal's verdict was reached, or it got on to the next level, as the chapter has them.
type reached map[string]int

// known is what is known of the gain, and of e to its power.
func known(t api.Tape, f api.Frog, a, b api.State, level int) (gain, e api.Ivl) {
	gain = gainBy(t, f, a, b, level)
	if gain.Kind == api.IvSome && !dyadicOf(gain.Hi).isAbove(dyadic{big.NewInt(lowest), 0}) {
		return gain, some(api.Dyad{}, odd(big.NewInt(1), lowest))
	}
	return gain, expo.Of(gain, 32*(level+1))
}

// weighBy weighs by the bits of a row. It needs what is accepted.
func weighBy(row string, t api.Tape, f api.Frog, a, b api.State, seen reached) answer {
	k, n, level := new(big.Int), 0, 0
	gain, e := known(t, f, a, b, level)
	next := func(why string) {
		seen[why]++
		if level++; level <= mostLevel {
			gain, e = known(t, f, a, b, level)
		}
	}
	ends := func(why string, v api.Verdict) answer {
		seen[why]++
		return answer{v: v, read: n}
	}
	for level <= mostLevel {
		if gain.Kind == api.IvUndef {
			return ends("undef", api.VdLeft)
		}
		if gain.Kind == api.IvUnknown {
			next("unknown")
			continue
		}
		if !(dyadic{new(big.Int), 0}).isAbove(dyadicOf(gain.Lo)) {
			return ends("first", api.VdTaken)
		}
		if e.Kind != api.IvSome {
			next("power")
			continue
		}
		lo, hi := dyadic{k, -n}, dyadic{new(big.Int).Add(k, big.NewInt(1)), -n}
		if !hi.isAbove(dyadicOf(e.Lo)) {
			return ends("second", api.VdTaken)
		}
		if lo.isAbove(dyadicOf(e.Hi)) {
			return ends("third", api.VdLeft)
		}
		if !hi.minus(lo).isAbove(dyadicOf(e.Hi).minus(dyadicOf(e.Lo))) {
			next("narrow")
			continue
		}
		if n == len(row) {
			seen["dry"]++
			return answer{e: api.ErrDry, read: n, dry: true}
		}
		k = new(big.Int).Lsh(k, 1)
		k.SetBit(k, 0, uint(row[n]-'0'))
		n++
	}
	seen["stuck"]++
	return answer{e: api.ErrStuck}
}

// roundedOut is what layer 7's Near should tell, by rational numbers alone.
func roundedOut(x *big.Rat, p int) api.Ivl {
	hi := roundedDown(new(big.Rat).Neg(x), p)
	hi.M.Neg = !hi.M.Neg && len(hi.M.M) > 0
	return some(roundedDown(x, p), hi)
}

func roundedDown(x *big.Rat, p int) api.Dyad {
	n, d := new(big.Int).Set(x.Num()), new(big.Int).Set(x.Denom())
	e := n.BitLen() - d.BitLen() - p - 1
	n.Lsh(n, uint(max(-e, 0)))
	d.Lsh(d, uint(max(e, 0)))
	n.Div(n, d)
	more := max(n.BitLen()-p, 0)
	return odd(n.Rsh(n, uint(more)), e+more)
}

// isNormalIvl tells whether an interval is valid as layer 7 has it.
func isNormalIvl(a api.Ivl) bool {
	_, e := dyad.Norm(a.Lo)
	_, e2 := dyad.Norm(a.Hi)
	return e == api.OK && e2 == api.OK && ivl.Check(a)
}
