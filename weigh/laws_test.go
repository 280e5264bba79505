package weigh_test

import (
	"math/big"
	"math/rand/v2"
	"testing"

	"stepstone/api"
	"stepstone/weigh"
)

// closeRow begins as e to the power of the gain does, for some bits, and goes on in any way.
func closeRow(g *rand.Rand, x api.Tape, f api.Frog, a, b api.State) string {
	const level = 6
	_, e := known(x, f, a, b, level)
	row := ""
	if e.Kind == api.IvSome && e.Lo.E > -2000 && ratOf(e.Lo).Cmp(rat(1, 1)) < 0 {
		row = digitsOf(ratOf(e.Lo), g.IntN(oneOf(g, 8, 40, 240)))
	}
	return row + anyRow(g, g.IntN(12))
}

// steep are proposals of which the gain is not known well, or not at once, beside those of any sort.
func steep(g *rand.Rand) (api.Tape, api.Frog, api.State, api.State) {
	if g.IntN(3) > 0 {
		return anyProposal(g)
	}
	n := oneOf(g, 31, 40, 48, 60, 90)
	x := coarse(n)
	switch g.IntN(4) {
	case 0:
		x.Nodes = append(x.Nodes, number(g.Int64N(7)-3, 4), two(api.NdAdd, 3, 4), one(api.NdNeed, 5), two(api.NdAdd, 0, 6))
	case 1:
		x.Nodes = append(x.Nodes, number(-199, 100), two(api.NdMul, 3, 4), one(api.NdExp, 5))
	case 2:
		x.Nodes = append(x.Nodes, number(1, 3), two(api.NdMul, 3, 4))
	}
	x.Out = len(x.Nodes) - 1
	f := gridded(1, g.IntN(6))
	return x, f, at(g.Int64N(60)), at(g.Int64N(60))
}

// P26.3: proposals of any sort, by rows of bits that begin as the power does, and of others, against the chapter's words.
func TestAnyWeigh(t *testing.T) {
	g := rand.New(rand.NewPCG(26, 3))
	seen, errors := reached{}, map[api.Errno]int{}
	for i := range 5000 {
		x, f, a, b := steep(g)
		row := closeRow(g, x, f, a, b)
		if i%12 == 0 {
			f, a, b = spoilt(g, f, a, b)
		}
		got := weighed(t, row, x, f, a, b, seen)
		errors[got.e]++
		if got.e == api.OK {
			// P26.5: other bits behind those that were read change nothing, and fewer do not suffice.
			if other := weighed(t, row[:got.read]+anyRow(g, g.IntN(20)), x, f, a, b, seen); other != got {
				t.Fatalf("%+v, and %+v with other bits behind", got, other)
			}
			if less := got.read - 1 - g.IntN(max(got.read, 1)); less >= 0 {
				if short := weighed(t, row[:less], x, f, a, b, seen); short != dryAt(less) {
					t.Fatalf("%+v, and %+v of %d bits", got, short, less)
				}
			}
		}
	}
	for _, why := range []string{"undef", "unknown", "first", "power", "second", "third", "narrow", "dry", "stuck"} {
		if seen[why] < 40 {
			t.Errorf("%s only %d times", why, seen[why])
		}
	}
	if errors[api.ErrArg] < 100 || errors[api.ErrDry] < 100 || errors[api.ErrStuck] < 30 {
		t.Error(errors)
	}
}

// P26.4: of any proposals and rows: each u that begins with what was read of the row is at most the power, or none is, as a higher level tells it.
func TestRight(t *testing.T) {
	g := rand.New(rand.NewPCG(26, 4))
	counts := map[api.Verdict]int{}
	for range 4000 {
		x, f, a, b := steep(g)
		row := closeRow(g, x, f, a, b)
		s, ahead := rowOf(t, row)
		v, e := weigh.Weigh(s, x, f, a, b)
		if e != api.OK {
			continue
		}
		_, high := known(x, f, a, b, mostLevel)
		read := s.Read() - ahead
		switch high.Kind {
		case api.IvUndef:
			if v != api.VdLeft || read > 0 {
				t.Fatalf("%s,%s has no value: %d", shownTape(x), shownStates(a, b), v)
			}
			continue
		case api.IvUnknown:
			// Too great for layer 9: then it is above 1.
			if gain, _ := known(x, f, a, b, mostLevel); gain.Kind != api.IvSome || bigOf(gain.Lo.M).Sign() <= 0 || v != api.VdTaken {
				t.Fatalf("%s,%s: %d, though nothing is known", shownTape(x), shownStates(a, b), v)
			}
			continue
		}
		k, _ := new(big.Int).SetString("0"+row[:read], 2)
		from, to := dyadic{k, -read}, dyadic{new(big.Int).Add(k, big.NewInt(1)), -read}
		if v == api.VdTaken && to.isAbove(dyadicOf(high.Hi)) || v == api.VdLeft && !from.isAbove(dyadicOf(high.Lo)) {
			t.Fatalf("%s, %s,%s by %s: verdict %d, but it is %s", shownTape(x), shownWay(f), shownStates(a, b), row[:read], v, shownIvl(high))
		}
		counts[v]++
	}
	if counts[api.VdTaken] < 1000 || counts[api.VdLeft] < 500 {
		t.Error(counts)
	}
}

// bell is minus half of the sum of the parameters' squares.
func bell() api.Tape {
	return tapeOf(2, par(0), par(1), two(api.NdMul, 0, 0), two(api.NdMul, 1, 1), two(api.NdAdd, 2, 3), number(-1, 2), two(api.NdMul, 4, 5))
}

// height is minus half of the sum of the squares of both, on their grid.
func height(l []api.Int, grid int) *big.Rat {
	sum := new(big.Int)
	for _, n := range l {
		sum.Add(sum, new(big.Int).Mul(bigOf(n), bigOf(n)))
	}
	return ratio(sum.Neg(sum), pow2(2*grid+1))
}

// powerBounds is e to the power of x, which is from -20 to 0, from below and from above, by the series of its opposite.
func powerBounds(x *big.Rat) (low, high *big.Rat) {
	sum, term, g := rat(0, 1), rat(1, 1), new(big.Rat).Neg(x)
	for n := int64(1); n <= 90; n++ {
		sum.Add(sum, term)
		term.Mul(term, g)
		term.Quo(term, rat(n, 1))
	}
	// What is left is below twice the next term.
	above := new(big.Rat).Add(sum, new(big.Rat).Add(term, term))
	return above.Inv(above), new(big.Rat).Inv(sum)
}

// P26.4: of all rows of n bits as many are accepted as e to the power of the gain says, which is computed by rational numbers alone, but for one that is not long enough.
func TestFair(t *testing.T) {
	g := rand.New(rand.NewPCG(26, 5))
	downs := 0
	for range 60 {
		grid := g.IntN(6)
		f := gridded(2, grid)
		place := func() []api.Int { return ints(g.Int64N(3<<grid)-1<<grid, g.Int64N(3<<grid)-1<<grid) }
		a, b := api.State{Q: place(), P: place()}, api.State{Q: place(), P: place()}
		// The energy of both: what the pushes weigh counts as what Out does.
		gain := rat(0, 1)
		for _, l := range [][]api.Int{b.Q, b.P} {
			gain.Add(gain, height(l, grid))
		}
		for _, l := range [][]api.Int{a.Q, a.P} {
			gain.Sub(gain, height(l, grid))
		}
		const n = 9
		taken, left, dry := int64(0), int64(0), int64(0)
		for i := range int64(1) << n {
			s, _ := rowOf(t, digitsOf(rat(i, 1<<n), n))
			switch v, e := weigh.Weigh(s, bell(), f, a, b); {
			case e == api.ErrDry && v == api.VdNone:
				dry++
			case v == api.VdTaken:
				taken++
			default:
				left++
			}
		}
		if gain.Sign() >= 0 {
			if taken != 1<<n {
				t.Errorf("a gain of %s: %d of 2^%d", gain, taken, n)
			}
			continue
		}
		downs++
		low, high := powerBounds(gain)
		share := func(k int64) *big.Rat { return rat(k, 1<<n) }
		if share(taken).Cmp(high) > 0 || share(taken+dry).Cmp(low) < 0 || dry != 1 || taken+left+dry != 1<<n {
			t.Errorf("a gain of %s: %d, %d, %d of 2^%d", gain, taken, left, dry, n)
		}
	}
	if downs < 20 {
		t.Errorf("only %d", downs)
	}
}

// firstKnown is the first gain that is known, or that there is none; not known, if it is not at any level.
func firstKnown(x api.Tape, f api.Frog, a, b api.State) (gain api.Ivl) {
	for level := 0; level <= mostLevel && gain.Kind == api.IvUnknown; level++ {
		gain = gainBy(x, f, a, b, level)
	}
	return gain
}

// P26.5: a gain that is not below 0, as it is first known, takes no bit; nor does the current place and push, if its gain is known.
func TestWithoutBits(t *testing.T) {
	g := rand.New(rand.NewPCG(26, 6))
	counts, selves := map[answer]int{}, map[answer]int{}
	for range 3000 {
		x, f, a, b := steep(g)
		first := firstKnown(x, f, a, b)
		got := weighed(t, "", x, f, a, b, reached{})
		counts[got]++
		switch {
		case first.Kind == api.IvUndef && got != left(0), first.Kind == api.IvUnknown && got != stuck():
			t.Fatalf("%s,%s, kind %d: %+v", shownTape(x), shownStates(a, b), first.Kind, got)
		case first.Kind == api.IvSome && !first.Lo.M.Neg && got != taken(0):
			t.Fatalf("%s,%s, from %s on: %+v", shownTape(x), shownStates(a, b), shownDyad(first.Lo), got)
		}
		self := weighed(t, "", x, f, a, api.State{Q: again(g, a.Q), P: again(g, a.P)}, reached{})
		want := map[uint8]answer{api.IvSome: taken(0), api.IvUndef: left(0), api.IvUnknown: stuck()}[firstKnown(x, f, a, a).Kind]
		if self != want {
			t.Fatalf("%s,%s and the same: %+v, want %+v", shownTape(x), shownStates(a), self, want)
		}
		selves[self]++
	}
	if len(counts) != 4 || len(selves) != 3 || selves[taken(0)] < 1500 || counts[taken(0)] < 500 || counts[dryAt(0)] < 500 {
		t.Error(counts, selves)
	}
}

// exactOut is Out of a tape of sums, differences, products and negations.
func exactOut(x api.Tape, grid int, q []api.Int) *big.Rat {
	var l []*big.Rat
	for _, n := range x.Nodes {
		v := new(big.Rat)
		switch n.Op {
		case api.NdNum:
			v = valid(n.C)
		case api.NdPar:
			v = ratio(bigOf(q[n.A]), pow2(grid))
		case api.NdAdd:
			v.Add(l[n.A], l[n.B])
		case api.NdSub:
			v.Sub(l[n.A], l[n.B])
		case api.NdMul:
			v.Mul(l[n.A], l[n.B])
		default:
			v.Neg(l[n.A])
		}
		l = append(l, v)
	}
	return l[x.Out]
}

// P26.2: what is known of the gain holds the gain, and at a higher level it is narrower.
func TestGainHolds(t *testing.T) {
	g := rand.New(rand.NewPCG(26, 7))
	exact := 0
	for range 1500 {
		x := anyTape(g, 9)
		for i, n := range x.Nodes {
			switch n.Op {
			case api.NdDiv:
				x.Nodes[i].Op = api.NdMul
			case api.NdExp, api.NdLog, api.NdRoot, api.NdNeed:
				x.Nodes[i].Op = api.NdNeg
			}
		}
		f := anyWay(g, x.Pars)
		a := anyState(g, x.Pars, f.Grid)
		b := anyOther(g, a, f.Grid)
		want := new(big.Rat).Sub(exactOut(x, f.Grid, b.Q), exactOut(x, f.Grid, a.Q))
		from, _ := weightBy(f, a.P)
		to, _ := weightBy(f, b.P)
		want.Add(want, from.Sub(from, to))
		before := new(big.Rat)
		for level := 0; level <= mostLevel; level += 6 {
			got, e := weigh.Gain(x, f, a, b, level)
			if e != api.OK || got.Kind != api.IvSome || ratOf(got.Lo).Cmp(want) > 0 || ratOf(got.Hi).Cmp(want) < 0 {
				t.Fatalf("%s, %s,%s: %s at level %d, %d, want %s", shownTape(x), shownWay(f), shownStates(a, b), shownIvl(got), level, e, cut(want.String()))
			}
			width := new(big.Rat).Sub(ratOf(got.Hi), ratOf(got.Lo))
			if level > 0 && width.Cmp(before) >= 0 && before.Sign() > 0 {
				t.Fatalf("%s, %s,%s: no narrower at level %d", shownTape(x), shownWay(f), shownStates(a, b), level)
			}
			before = width
			if width.Sign() == 0 && level == 0 {
				exact++
			}
		}
	}
	if exact > 1400 {
		t.Errorf("%d are exact at once", exact)
	}
}
