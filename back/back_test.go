package back_test

import (
	"math"
	"math/big"
	"math/rand/v2"
	"slices"
	"strconv"
	"testing"

	"stepstone/api"
	"stepstone/back"
)

// The chapter's examples.
func TestExamples(t *testing.T) {
	ofIs(t, "the square", tapeOf(1, par(0), two(api.NdMul, 0, 0)), "3", 10, "9", "6")
	ofIs(t, "the quotient", tapeOf(2, par(0), par(1), two(api.NdDiv, 0, 1)), "1, 2", 10, "1p-1", "1p-1, -1p-2")
	ofIs(t, "the logarithm", tapeOf(1, par(0), one(api.NdLog, 0)), "0", 10, "!", "!")
}

// stepOf is a tape of so many parameters, and a step of them.
func stepOf(op uint8, pars int) api.Tape {
	if pars == 1 {
		return tapeOf(1, par(0), one(op, 0))
	}
	return tapeOf(2, par(0), par(1), two(op, 0, 1))
}

// row is what the steps of a step of two, or of one, parameters grow by.
type row struct {
	op      uint8
	vals    string
	p       int
	want    string
	comment string
}

func rowsOfTwo() []row {
	return []row{
		{api.NdAdd, "1, 2, 3", 9, "1, 1", ""},
		{api.NdAdd, "-1 1, ?, 3", 9, "1, 1", "whatever is known of the steps"},
		{api.NdAdd, "!, !, -7", 1, "1, 1", "whatever is known of the steps"},
		{api.NdSub, "1, 2, -1", 9, "1, -1", ""},
		{api.NdSub, "?, !, 0", 1, "1, -1", "whatever is known of the steps"},
		{api.NdMul, "1 2, 3 5, 3p0 5p1", 9, "3 5, 1 2", ""},
		{api.NdMul, "1 2, 3 5, 100", 9, "3 5, 1 2", "whatever is known of the product"},
		{api.NdMul, "-1 2, -5 -3, 0", 9, "-5 -3, -1 2", ""},
		{api.NdMul, "5, 45, 0", 2, "1p5 3p4, 1p2 3p1", "to two bits, outwards"},
		{api.NdMul, "-5, -45, 0", 2, "-3p4 -1p5, -3p1 -1p2", "to two bits, outwards"},
		{api.NdMul, "?, 3, 1", 9, "3, ?", ""},
		{api.NdMul, "7, !, 1", 9, "!, 7", ""},
		{api.NdMul, "0, 0, 0", 9, "0, 0", ""},
		{api.NdDiv, "1, 2, 1p-1", 9, "1p-1, -1p-2", "the chapter's example"},
		{api.NdDiv, "1, 2, 3", 9, "1p-1, -3p-1", "by the quotient, as it is told"},
		{api.NdDiv, "?, 4, 1 3", 9, "1p-2, -3p-2 -1p-2", "whatever is known of A"},
		{api.NdDiv, "1, 3, 1", 4, "5p-4 11p-5, -11p-5 -5p-4", ""},
		{api.NdDiv, "1, 3, 3", 1, "1p-2 1p-1, -1p1 -1p-1", "what is divided is rounded ahead"},
		{api.NdDiv, "9, 1p-1 4, 1", 9, "1p-2 2, -2 -1p-2", ""},
		{api.NdDiv, "9, -4 -1p-1, -1 5", 9, "-2 -1p-2, -2 10", ""},
		{api.NdDiv, "9, -2 2, 1", 9, "?, ?", "by what contains 0"},
		{api.NdDiv, "9, 0 2, 1", 9, "?, ?", "by what begins with 0"},
		{api.NdDiv, "9, -2 0, 1", 9, "?, ?", "by what ends with 0"},
		{api.NdDiv, "9, -2 2, 0", 9, "?, ?", "0 by what contains 0"},
		{api.NdDiv, "9, 0, 1", 9, "!, !", "by 0"},
		{api.NdDiv, "9, ?, 1", 9, "?, ?", ""},
		{api.NdDiv, "9, !, 1", 9, "!, !", ""},
		{api.NdDiv, "1, 1p-1048576, 1p1048576", 9, "1p1048576, ?", "too great for layer 5"},
	}
}

func rowsOfOne() []row {
	return []row{
		{api.NdNeg, "5, -5", 9, "-1", ""},
		{api.NdNeg, "?, 1 2", 1, "-1", "whatever is known"},
		{api.NdExp, "5, 9", 9, "9", "by the exponential, as it is told"},
		{api.NdExp, "!, -1 45", 2, "-1 3p4", ""},
		{api.NdExp, "0, 1", 1, "1", ""},
		{api.NdLog, "4, 9", 9, "1p-2", "by the parameter, not the logarithm"},
		{api.NdLog, "1p-1 3, 9", 4, "5p-4 2", ""},
		{api.NdLog, "-2, 1", 9, "-1p-1", "also where there is no logarithm"},
		{api.NdLog, "0, 1", 9, "!", ""},
		{api.NdLog, "-1 1, 1", 9, "?", ""},
		{api.NdLog, "0 1, 1", 9, "?", ""},
		{api.NdLog, "?, 1", 9, "?", ""},
		{api.NdLog, "!, 1", 9, "!", ""},
		{api.NdRoot, "4, 8", 9, "1p-4", "by the root, as it is told"},
		{api.NdRoot, "?, 2 4", 9, "1p-3 1p-2", ""},
		{api.NdRoot, "-1, -2", 9, "-1p-2", "also where there is no root"},
		{api.NdRoot, "25, 5", 2, "1p-4 1p-3", "what it is divided by is rounded ahead"},
		{api.NdRoot, "4, 0", 9, "!", ""},
		{api.NdRoot, "4, -1 1", 9, "?", ""},
		{api.NdNeed, "4, 0", 9, "0", ""},
		{api.NdNeed, "-4, 5", 9, "0", "whatever is known"},
		{api.NdNeed, "?, 0", 9, "0", "whatever is known"},
		{api.NdNeed, "!, 1 2", 1, "0", "whatever is known"},
	}
}

// P19.1: what each Op passes on, also by intervals that no Run told.
func TestSlopesOps(t *testing.T) {
	for _, r := range rowsOfTwo() {
		slopesAre(t, r.comment, stepOf(r.op, 2), r.vals, r.p, r.want)
	}
	for _, r := range rowsOfOne() {
		slopesAre(t, r.comment, stepOf(r.op, 1), r.vals, r.p, r.want)
	}
}

// P19.1: the same with a share that is not 1, as it comes from a step behind: 3 times it is passed on.
func TestSlopesOfShares(t *testing.T) {
	third := func(op uint8, pars int) api.Tape {
		l := append(stepOf(op, pars).Nodes, number(3, 1))
		return tapeOf(pars, append(l, two(api.NdMul, pars, pars+1))...)
	}
	for _, r := range []row{
		{api.NdAdd, "7, 9, 5, 3, 1", 9, "3, 3", ""},
		{api.NdSub, "7, 9, 5, 3, 1", 9, "3, -3", ""},
		{api.NdMul, "7, 9, 5, 3, 1", 9, "27, 21", ""},
		{api.NdDiv, "7, 8, 5, 3, 1", 9, "3p-3, -15p-3", ""},
		{api.NdDiv, "7, 9, 5, 3, 1", 3, "5p-4 3p-3, -1p1 -3p-1", "15 is 14 to 16 to three bits, a 9th of it 3/2 to 2"},
		{api.NdMul, "7, 9, 5, ?, 1", 9, "?, ?", ""},
		{api.NdMul, "0, 9, 5, ?, 1", 9, "?, ?", "0 times what is not known"},
		{api.NdSub, "0, 9, 5, !, 1", 9, "!, !", ""},
	} {
		slopesAre(t, r.comment, third(r.op, 2), r.vals, r.p, r.want)
	}
	for _, r := range []row{
		{api.NdNeg, "7, 5, 3, 1", 9, "-3", ""},
		{api.NdExp, "7, 5, 3, 1", 9, "15", ""},
		{api.NdExp, "7, 5, 3, 1", 3, "7p1 1p4", ""},
		{api.NdLog, "4, 5, 3, 1", 9, "3p-2", ""},
		{api.NdRoot, "4, 2, 3, 1", 9, "3p-2", ""},
		{api.NdRoot, "4, 1 2, -3 3, 1", 9, "-3p-1 3p-1", ""},
		{api.NdNeed, "4, 2, 3, 1", 9, "0", ""},
		{api.NdNeed, "4, 2, ?, 1", 9, "0", "nothing is passed on, whatever the share"},
		{api.NdNeed, "4, 2, !, 1", 9, "0", "nothing is passed on, whatever the share"},
	} {
		slopesAre(t, r.comment, third(r.op, 1), r.vals, r.p, r.want)
	}
}

// P19.1: A and B are one step: its share grows twice.
func TestSlopesOfOneTwice(t *testing.T) {
	for _, r := range []row{
		{api.NdAdd, "7, 1", 9, "2", ""},
		{api.NdSub, "7, 1", 9, "0", ""},
		{api.NdMul, "7, 1", 9, "14", ""},
		{api.NdMul, "7, 1", 1, "1p3 1p4", "4 to 8, and twice that to one bit"},
		{api.NdMul, "-1 2, 1", 9, "-2 4", ""},
		{api.NdDiv, "4, 1", 9, "0", ""},
		{api.NdDiv, "2, 3", 9, "-1", ""},
		{api.NdDiv, "3, 1", 4, "-1p-5 1p-5", "the sum of 1/3, and of -1/3, to four bits"},
		{api.NdDiv, "0, 1", 4, "!", ""},
		{api.NdDiv, "-1 1, 1", 4, "?", ""},
		{api.NdMul, "?, 1", 4, "?", ""},
		{api.NdMul, "!, 1", 4, "!", ""},
	} {
		slopesAre(t, r.comment, tapeOf(1, par(0), two(r.op, 0, 0)), r.vals, r.p, r.want)
	}
	// To two bits: 4, and 1 more, is 4 to 6, and 1 more 4 to 8; but 2, and 4 more, is 6.
	x := tapeOf(1, par(0), number(4, 1), two(api.NdAdd, 0, 0), two(api.NdMul, 0, 1), two(api.NdAdd, 2, 3))
	slopesAre(t, "4, and then 1 twice", x, "1, 4, 2, 4, 6", 2, "1p2 1p3")
	x = tapeOf(1, par(0), number(4, 1), two(api.NdMul, 0, 1), two(api.NdAdd, 0, 0), two(api.NdAdd, 2, 3))
	slopesAre(t, "1 twice, and then 4", x, "1, 4, 4, 2, 6", 2, "6")
}

// P19.1: A's share grows ahead of B's.
func TestSlopesOrder(t *testing.T) {
	// To two bits: 4, and 1 more, is 4 to 6, and 1 less 3 to 6; but 1 less first, and then 1 more, is 4.
	x := tapeOf(1, par(0), number(4, 1), two(api.NdSub, 0, 0), two(api.NdMul, 0, 1), two(api.NdAdd, 2, 3))
	slopesAre(t, "A's, then B's", x, "1, 4, 0, 4, 4", 2, "3 6")
	// The same, and then 1 less.
	x = tapeOf(1, par(0), number(4, 1), one(api.NdNeg, 0), two(api.NdSub, 0, 0), two(api.NdMul, 0, 1), two(api.NdAdd, 3, 4), two(api.NdAdd, 5, 2))
	slopesAre(t, "the steps backwards", x, "1, 4, -1, 0, 4, 4, 3", 2, "2 6")
	// 4, and then 1/2 more, less 3 times that.
	x = tapeOf(1, par(0), number(4, 1), two(api.NdDiv, 0, 0), two(api.NdMul, 0, 1), two(api.NdAdd, 2, 3))
	slopesAre(t, "A's, then B's, of a quotient", x, "2, 4, 3, 4, 4", 2, "2 6")
}

// P19.1: a step that several others have; the sum of their growths, from the last one to the first one.
func TestSlopesSeveral(t *testing.T) {
	l := func(op ...string) api.Tape {
		x := tapeOf(1, par(0), number(4, 1), one(api.NdNeg, 0))
		last := 2
		for _, s := range op {
			n := len(x.Nodes)
			switch s {
			case "1":
				x.Nodes = append(x.Nodes, two(api.NdAdd, 0, last))
			case "-1":
				x.Nodes = append(x.Nodes, two(api.NdSub, last, 0))
			case "4":
				x.Nodes = append(x.Nodes, two(api.NdMul, 0, 1), two(api.NdAdd, n, last))
			}
			last = len(x.Nodes) - 1
		}
		x.Out = last
		return x
	}
	for _, r := range []struct {
		ops  []string
		p    int
		want string
	}{
		// In the end 1 less, by the first one of the steps.
		{[]string{"1"}, 2, "0"},
		{[]string{"1", "4", "1"}, 9, "5"},
		{[]string{"1", "4", "1"}, 2, "3 1p3"},
		{[]string{"4", "1", "1"}, 2, "4 6"},
		{[]string{"1", "1", "4"}, 2, "3 1p3"},
		{[]string{"-1", "-1", "4"}, 2, "1"},
	} {
		x := l(r.ops...)
		if got := slopesOf(t, x, slices.Repeat(knowns("4"), len(x.Nodes)), r.p); !allSame(got, knowns(r.want)) {
			t.Errorf("%v to %d bits: %s, want %s", r.ops, r.p, shown(got...), r.want)
		}
	}
}

// P19.1: several NdPar steps of a parameter: their shares are added up in the steps' order.
func TestSlopesOfPars(t *testing.T) {
	// The shares of the first three steps are the three numbers.
	x := tapeOf(3, par(1), par(1), par(1), number(0, 1), number(0, 1), number(0, 1), two(api.NdMul, 0, 3), two(api.NdMul, 1, 4), two(api.NdMul, 2, 5), two(api.NdAdd, 6, 7), two(api.NdAdd, 9, 8))
	behind := ", 1, 1, 1, 1, 1"
	for shares, want := range map[string]string{"4, 1, 1": "1p2 1p3", "1, 1, 4": "6", "1, 4, 1": "1p2 1p3", "-4, -1, -1": "-1p3 -1p2", "4, 1, -1": "3 6", "1, -1, 4": "4", "1, ?, 4": "?", "1, 1, !": "!", "!, 1, ?": "!", "?, !, 1": "!"} {
		slopesAre(t, "shares "+shares, x, "1, 1, 1, "+shares+behind, 2, "0, "+want+", 0")
	}
	// Two parameters, by turns.
	y := tapeOf(2, par(1), par(0), par(1), par(0), two(api.NdMul, 0, 1), two(api.NdMul, 2, 3), two(api.NdSub, 4, 5))
	slopesAre(t, "two by turns", y, "3, 5, 7, 11, 15, 77, -62", 20, "-4, -6")
	// Steps that are not live, and steps behind Out, have no share; nor do they matter.
	z := tapeOf(2, par(0), par(0), par(1), two(api.NdMul, 0, 2), par(0), par(1), two(api.NdMul, 4, 5))
	slopesAre(t, "not live", withOut(z, 3), "3, ?, 5, 15, !, ?, 1", 20, "5, 3")
	slopesAre(t, "not live", withOut(z, 6), "!, ?, !, ?, 3, 5, 15", 20, "5, 3")
	slopesAre(t, "of a parameter itself", withOut(z, 4), "!, ?, !, ?, 3, 5, 15", 20, "1, 0")
	slopesAre(t, "of a parameter itself", withOut(z, 1), "!, 3, !, ?, !, 5, 15", 1, "1, 0")
}

// P19.1: parameters that no step names, or that no live step names.
func TestSlopesOfNoStep(t *testing.T) {
	slopesAre(t, "a number", tapeOf(3, number(1, 3)), "7", 20, "0, 0, 0")
	slopesAre(t, "no parameter", tapeOf(0, number(1, 3)), "7", 20, "")
	slopesAre(t, "the second one", tapeOf(3, par(1)), "7", 20, "0, 1, 0")
	slopesAre(t, "one that is not live", tapeOf(3, par(0), par(2), one(api.NdNeg, 0)), "7, 1, -7", 20, "-1, 0, 0")
	slopesAre(t, "many, one step", tapeOf(mostPars, par(mostPars-1), one(api.NdNeg, 0)), "7, -7", 20, zerosAnd(mostPars-1, "-1"))
}

// zerosAnd is so many slopes of 0, and one more.
func zerosAnd(n int, last string) string {
	out := ""
	for range n {
		out += "0, "
	}
	return out + last
}

// P19.1: what is known of Out is not bounds.
func TestSlopesOfKinds(t *testing.T) {
	x := ordinary()
	for _, kind := range []string{"?", "!"} {
		for out := range x.Nodes {
			vals := slices.Repeat(knowns("3"), len(x.Nodes))
			vals[out] = known(kind)
			if got := slopesOf(t, withOut(x, out), vals, 9); !allSame(got, knowns(kind+", "+kind+", "+kind)) {
				t.Errorf("with Out %d %s: %s", out, kind, shown(got...))
			}
		}
		slopesAre(t, "a number", tapeOf(2, number(1, 3)), kind, 20, kind+", "+kind)
		slopesAre(t, "without a parameter", tapeOf(0, number(1, 3)), kind, 20, "")
		slopesAre(t, "not defined ahead of it", tapeOf(2, par(0), one(api.NdLog, 0)), "!, "+kind, 20, kind+", "+kind)
		vals := append(slices.Repeat(knowns("!"), mostPars), known(kind))
		var nodes []api.Node
		for i := range mostPars {
			nodes = append(nodes, par(i))
		}
		got := slopesOf(t, tapeOf(mostPars, append(nodes, one(api.NdNeed, 0))...), vals, 9)
		if !allSame(got, slices.Repeat(knowns(kind), mostPars)) {
			t.Errorf("of %d parameters: %s", mostPars, shown(got...))
		}
	}
}

// P19.1: steps that are not live pass nothing on, not even nothing times what is not known.
func TestSlopesNotLive(t *testing.T) {
	for _, op := range slices.Concat(opsOfTwo(), opsOfOne()) {
		for _, v := range []string{"?", "!", "0", "-1 1", "5"} {
			aside := api.Node{Op: op, B: bit(slices.Contains(opsOfTwo(), op))}
			ahead := tapeOf(2, par(0), par(1), aside, one(api.NdExp, 0))
			slopesAre(t, "ahead of Out", ahead, "-1 1, ?, "+v+", 1 3", 20, "1 3, 0")
			slopesAre(t, "behind Out", withOut(tapeOf(2, par(0), par(1), one(api.NdExp, 0), aside), 2), "0, 0, 1 3, "+v, 20, "1 3, 0")
			slopesAre(t, "behind Out, of it", withOut(tapeOf(2, par(0), par(1), one(api.NdExp, 0), one(op, 2)), 2), "0, 0, 1 3, "+v, 20, "1 3, 0")
		}
	}
}

func bit(is bool) int {
	if is {
		return 1
	}
	return 0
}

// P19.1: an ordinary tape.
func TestSlopes(t *testing.T) {
	x := ordinary()
	for out := range x.Nodes {
		for _, box := range []string{"1, -1, 5", "0, 0, 0", "-1 1, -1p-9 3, 7 8", "?, 1, 1", "1, !, 1", "1, 1, ?", "1p900, 1, 1"} {
			for _, p := range []int{1, 2, 3, 31, 32, 33, 64, 992} {
				ofBox(t, withOut(x, out), knowns(box), p)
			}
		}
	}
	// By hand: -(a - 3/7 - b)^2 / 7 times the root of 7, for the logarithm of an exponential; the root is of a number.
	l := slopesOf(t, x, ofVals(t, x, "1, -1, 5", 300), 300)
	for k, want := range []float64{-22.0 / 49 * math.Sqrt(7), 22.0 / 49 * math.Sqrt(7), 0} {
		if lo, hi := floats(l[k]); math.Abs(lo-want) > 1e-14 || math.Abs(hi-want) > 1e-14 {
			t.Errorf("slope %d is from %v to %v, want %v", k, lo, hi, want)
		}
	}
}

func floats(a api.Ivl) (lo, hi float64) {
	lo, _ = ratOf(a.Lo).Float64()
	hi, _ = ratOf(a.Hi).Float64()
	return lo, hi
}

// Errors: what p may be.
func TestSlopesBits(t *testing.T) {
	x := tapeOf(1, par(0), number(3, 1), two(api.NdDiv, 0, 1))
	for _, p := range []int{1, 2, 31, 32, 33, 63, 64, 65, 992, 993, mostFine - 1, mostFine} {
		want := some(rounded(big.NewRat(1, 3), p, false), rounded(big.NewRat(1, 3), p, true))
		if got := slopesOf(t, x, knowns("1, 3, 1"), p); !allSame(got, []api.Ivl{want}) {
			t.Errorf("to %d bits: %s, want %s", p, shown(got...), shown(want))
		}
		slopesOf(t, tapeOf(0, number(1, 3)), knowns("1"), p)
	}
	for _, p := range noBits() {
		fails(t, "bits", api.ErrArg, x, knowns("1, 3, 1"), p)
		fails(t, "bits, of what is not known", api.ErrArg, x, knowns("?, ?, ?"), p)
		fails(t, "bits, of what is not", api.ErrArg, x, knowns("!, !, !"), p)
		fails(t, "bits, without a parameter", api.ErrArg, tapeOf(0, number(1, 3)), knowns("1"), p)
		fails(t, "bits, and the list", api.ErrArg, x, nil, p)
		fails(t, "bits, and what the list has", api.ErrArg, x, []api.Ivl{{Kind: 3}, known("1"), known("1")}, p)
	}
}

// Errors: how many intervals a list has.
func TestSlopesLength(t *testing.T) {
	for _, steps := range []int{1, 2, 3, 100} {
		nodes := []api.Node{par(0)}
		for i := range steps - 1 {
			nodes = append(nodes, one(api.NdNeg, i))
		}
		for _, pars := range []int{1, 2, steps - 1, steps, steps + 1} {
			if pars < 1 {
				continue
			}
			for out := range min(steps, 3) {
				x := withOut(tapeOf(pars, nodes...), out)
				for _, a := range knowns("3 4, ?, !, 0") {
					for _, n := range []int{0, 1, 2, 3, steps - 1, steps, steps + 1, 2 * steps, 10000} {
						vals := slices.Repeat([]api.Ivl{a}, n)
						if n == steps {
							slopesOf(t, x, vals, 40)
						} else {
							fails(t, "length", api.ErrArg, x, vals, 40)
							fails(t, "length, and the bits", api.ErrArg, x, vals, 0)
						}
					}
				}
				fails(t, "no list", api.ErrArg, x, nil, 40)
			}
		}
	}
	fails(t, "no list, without a parameter", api.ErrArg, tapeOf(0, number(1, 1)), nil, 9)
	fails(t, "no list, without a parameter", api.ErrArg, tapeOf(0, number(1, 1)), []api.Ivl{}, 9)
}

// noIvls are not valid.
func noIvls() []api.Ivl {
	l := []api.Ivl{
		{Kind: 3}, {Kind: 255}, {Kind: 3, Lo: num("1"), Hi: num("2")}, some(num("2"), num("1")), some(num("1p-9"), num("0")),
		{Hi: num("1")}, {Lo: num("-1")}, {Kind: api.IvUndef, Lo: num("1"), Hi: num("1")}, {Kind: api.IvUndef, Hi: num("1")}, {Lo: api.Dyad{E: 1}},
		some(small(2, 0), small(2, 0)), some(small(1, 0), small(2, 0)), some(small(-2, 0), small(1, 0)), some(api.Dyad{E: 1}, num("1")),
		some(api.Dyad{M: api.Int{Neg: true}}, num("1")), some(num("-1"), api.Dyad{M: api.Int{M: api.Nat{0}}}), some(num("-1"), api.Dyad{M: api.Int{M: api.Nat{1, 0}}}),
	}
	for _, x := range noDyads() {
		l = append(l, some(x, x), some(num("-1"), x), some(x, num("1")), api.Ivl{Lo: x, Hi: x})
	}
	return l
}

// noDyads are not valid.
func noDyads() []api.Dyad {
	long := append(make(api.Nat, api.MaxLimbs), 1)
	return []api.Dyad{
		small(1, far+1), small(-1, far+1), small(1, -far-1), {E: far + 1}, {E: math.MinInt}, {E: math.MaxInt}, small(3, math.MaxInt), small(-3, math.MinInt),
		{M: api.Int{M: long}}, {M: api.Int{Neg: true, M: long}, E: -far}, written(plus(pow2(mostBits), 1), -mostBits), small(2, far), written(pow2(64), far),
	}
}

// Errors: an interval that is not valid, at each place, live or not, whatever is known of Out.
func TestSlopesNotValid(t *testing.T) {
	nodes := []api.Node{par(0), number(1, 2), one(api.NdExp, 0), two(api.NdAdd, 0, 1), one(api.NdLog, 3)}
	for out := range nodes {
		x := withOut(tapeOf(2, nodes...), out)
		for k, a := range noIvls() {
			for i := range nodes {
				for _, vals := range [][]api.Ivl{knowns("1, 2, 3, 4, 5"), knowns("?, ?, ?, ?, ?"), knowns("!, !, !, !, !")} {
					vals[i] = a
					fails(t, "interval "+strconv.Itoa(k)+" at "+strconv.Itoa(i), api.ErrArg, x, vals, 50)
				}
			}
			fails(t, "length, too", api.ErrArg, x, []api.Ivl{a}, 50)
			fails(t, "bits, too", api.ErrArg, x, []api.Ivl{known("1"), known("1"), known("1"), known("1"), a}, -1)
		}
		slopesOf(t, x, knowns("1, 2, 3, 4, 5"), 50)
	}
	for _, a := range []api.Ivl{some(small(-1, far), small(1, far)), some(small(1, -far), odd(allOnes(mostBits), far)), some(odd(allOnes(mostBits), -far), odd(allOnes(mostBits), -far))} {
		for i := range nodes {
			vals := knowns("1, 2, 3, 4, 5")
			vals[i] = a
			slopesOf(t, tapeOf(1, nodes...), vals, 50)
		}
	}
}

// noTape is one that is not valid, and why.
type noTape struct {
	what string
	tape api.Tape
}

// noTapes differ from a tape of two parameters each by one thing.
func noTapes() []noTape {
	changed := func(what string, do func(x *api.Tape)) noTape {
		x := tapeOf(2, par(0), par(1), number(1, 2), two(api.NdAdd, 0, 1), one(api.NdExp, 3))
		x.Tells = []api.Tell{{Name: "a", At: 3}}
		do(&x)
		return noTape{what, x}
	}
	l := []noTape{
		changed("no node", func(x *api.Tape) { x.Nodes = nil }),
		changed("nothing but parameters", func(x *api.Tape) { *x = api.Tape{Pars: 2} }),
		changed("Out behind", func(x *api.Tape) { x.Out = 5 }),
		changed("Out ahead", func(x *api.Tape) { x.Out = -1 }),
		changed("told behind", func(x *api.Tape) { x.Tells[0].At = 5 }),
		changed("told ahead", func(x *api.Tape) { x.Tells[0].At = -1 }),
		changed("a parameter too many", func(x *api.Tape) { x.Nodes[1].A = 2 }),
		changed("a parameter below 0", func(x *api.Tape) { x.Nodes[1].A = -1 }),
		changed("a parameter with a step", func(x *api.Tape) { x.Nodes[1].B = 1 }),
		changed("a step of itself", func(x *api.Tape) { x.Nodes[3].A = 3 }),
		changed("a step of one behind", func(x *api.Tape) { x.Nodes[3].B = 4 }),
		changed("a step of none", func(x *api.Tape) { x.Nodes[4].A = -1 }),
		changed("a second step too many", func(x *api.Tape) { x.Nodes[4].B = 1 }),
		changed("a number too many", func(x *api.Tape) { x.Nodes[4].C = x.Nodes[2].C }),
		changed("a number with a step", func(x *api.Tape) { x.Nodes[2].A = 1 }),
		changed("no number", func(x *api.Tape) { x.Nodes[2].C = api.Frac{} }),
		changed("a number that is not normal", func(x *api.Tape) { x.Nodes[2].C = api.Frac{N: api.Int{M: api.Nat{2}}, D: api.Nat{4}} }),
		changed("a step that is not live", func(x *api.Tape) { x.Out, x.Nodes[4].A = 0, 5 }),
		changed("too many nodes", func(x *api.Tape) { x.Nodes = append(x.Nodes, slices.Repeat([]api.Node{par(1)}, mostNodes-4)...) }),
	}
	for _, op := range []uint8{0, 12, 13, 127, 255} {
		l = append(l, changed("Op "+strconv.Itoa(int(op)), func(x *api.Tape) { x.Nodes[3].Op = op }))
	}
	for _, n := range append(farIntegers(), -1, 0, 1, mostPars+1) {
		l = append(l, changed("Pars "+strconv.Itoa(n), func(x *api.Tape) { x.Pars = n }))
	}
	for _, n := range farIntegers() {
		l = append(l, changed("A "+strconv.Itoa(n), func(x *api.Tape) { x.Nodes[3].A = n }), changed("Out "+strconv.Itoa(n), func(x *api.Tape) { x.Out = n }))
	}
	return l
}

// Errors: a tape that is not valid, also where all else is not.
func TestNoTape(t *testing.T) {
	for _, x := range noTapes() {
		as := slices.Repeat(knowns("1"), len(x.tape.Nodes))
		bad := append(slices.Clone(as), api.Ivl{Kind: 3})[1:]
		boxes := [][]api.Ivl{knowns("1, 2"), nil, knowns("1"), knowns("1, 2, 3"), knowns("?, !"), {known("1"), {Kind: 3}}, {{Kind: 3}}}
		for _, p := range []int{64, 1, mostFine, 0, -1, mostFine + 1} {
			for _, vals := range [][]api.Ivl{as, slices.Repeat(knowns("?"), len(as)), slices.Repeat(knowns("!"), len(as)), nil, as[:len(as)/2], append(slices.Clone(as), known("1")), bad} {
				fails(t, x.what, api.ErrTape, x.tape, vals, p)
			}
			for _, box := range boxes {
				failsOf(t, x.what, api.ErrTape, x.tape, box, p)
			}
		}
	}
}

// long is a tape of so many steps, which goes through the Ops that keep numbers small.
func long(n int) api.Tape {
	l := []api.Node{par(0), par(1), number(1, 3)}
	for i := 3; i < n; i++ {
		switch i % 5 {
		case 0:
			l = append(l, two(api.NdAdd, i-1, i-2))
		case 1:
			l = append(l, two(api.NdSub, i-1, i-2))
		case 2:
			l = append(l, two(api.NdDiv, i-1, 2))
		case 3:
			l = append(l, one(api.NdNeg, i-1))
		case 4:
			l = append(l, two(api.NdMul, i-1, 2))
		}
	}
	return tapeOf(2, l...)
}

// P19.1, P19.2, limits: the most steps, and the most parameters.
func TestLong(t *testing.T) {
	x := long(mostNodes)
	for _, out := range []int{0, 3, mostNodes - 1} {
		ofBox(t, withOut(x, out), knowns("1 2, -1p-9"), 50)
	}
	ofBox(t, x, knowns("?, 1"), 50)
	ofBox(t, long(1000), knowns("1, 3p-1"), mostFine)
	var nodes []api.Node
	for i := range mostPars {
		nodes = append(nodes, par(i))
	}
	for i := range mostNodes - mostPars {
		nodes = append(nodes, two(api.NdAdd, i%mostPars, len(nodes)-1))
	}
	// Each parameter is 99 times added, the last one is there once more.
	want := slices.Repeat(knowns("99"), mostPars)
	want[mostPars-1] = known("100")
	box := slices.Repeat(knowns("1 2"), mostPars)
	if _, got := ofBox(t, tapeOf(mostPars, nodes...), box, 100); !allSame(got, want) {
		t.Errorf("of %d parameters: %s", mostPars, shown(got...))
	}
	same := withOut(tapeOf(1, slices.Repeat([]api.Node{par(0)}, mostNodes)...), mostNodes/2)
	slopesAre(t, "of one parameter", withOut(same, 0), listOf("7", mostNodes), 1, "1")
	ofIs(t, "of one parameter", same, "7 9", 1, "7 9", "1")
	chain := []api.Node{par(0)}
	for i := range mostNodes - 1 {
		chain = append(chain, one(api.NdNeg, i))
	}
	ofIs(t, "minus minus", tapeOf(1, chain...), "7 9", 20, "-9 -7", "-1")
	for i := range mostNodes - 1 {
		chain[i+1] = two(api.NdAdd, i, i)
	}
	slopesAre(t, "twice twice", tapeOf(1, chain...), listOf("1", mostNodes), 20, "1p"+strconv.Itoa(mostNodes-1))
	for i := range mostNodes - 1 {
		chain[i+1] = one(api.NdExp, i)
	}
	slopesAre(t, "too great for layer 5", tapeOf(1, chain...), listOf("1p1000", mostNodes), 20, "?")
}

// listOf is a number so many times.
func listOf(s string, n int) string {
	out := ""
	for range n - 1 {
		out += s + ", "
	}
	return out + s
}

// anyVals are intervals for the steps of a tape, which no Run told; mostly with bounds for Out.
func anyVals(g *rand.Rand, x api.Tape) []api.Ivl {
	vals := anyBox(g, len(x.Nodes))
	if vals[x.Out].Kind != api.IvSome && g.IntN(4) > 0 {
		vals[x.Out] = known("3")
	}
	return vals
}

// P19.1: random tapes, and intervals that no Run told.
func TestSlopesAny(t *testing.T) {
	g := rand.New(rand.NewPCG(19, 1))
	met := map[uint8]int{}
	wide := 0
	for range 8000 {
		x := anyTape(g, 25)
		for _, a := range slopesOf(t, x, anyVals(g, x), oneOf(g, 1, 2, 3, 4, 8, 32, 53, 64, 65, 128, 1+g.IntN(300))) {
			met[a.Kind]++
			if a.Kind == api.IvSome && !sameNumber(a.Lo, a.Hi) {
				wide++
			}
		}
	}
	for _, kind := range []uint8{api.IvUnknown, api.IvSome, api.IvUndef} {
		if met[kind] < 300 {
			t.Errorf("only %d slopes of kind %d", met[kind], kind)
		}
	}
	if wide < 500 {
		t.Errorf("only %d slopes that are not one number", wide)
	}
}

// P19.1: random tapes, each step of which is live, so that all Ops pass something on.
func TestSlopesAllLive(t *testing.T) {
	g := rand.New(rand.NewPCG(19, 2))
	met := map[[2]uint8]int{}
	for range 4000 {
		x := anyLiveTape(g, 3+g.IntN(12))
		vals := anyVals(g, x)
		for i, a := range vals {
			if a.Kind != api.IvSome {
				vals[i] = known("-3p-1 -1p-1")
			}
		}
		p := oneOf(g, 1, 2, 3, 5, 20, 64)
		slopesOf(t, x, vals, p)
		for i, a := range sharesByHand(x, vals, p) {
			met[[2]uint8{x.Nodes[i].Op, a.Kind}]++
		}
	}
	for op := api.NdNum; op <= api.NdNeed; op++ {
		if n := met[[2]uint8{op, api.IvSome}]; n < 500 {
			t.Errorf("only %d shares of steps with Op %d", n, op)
		}
	}
}

// anyLiveTape has steps of Ops of one and of two, and adds up in the end what no step has.
func anyLiveTape(g *rand.Rand, steps int) api.Tape {
	nodes := []api.Node{par(0), par(1), number(1+g.Int64N(5), 3), par(0)}
	for range steps {
		n := anyNode(g, len(nodes), 2)
		nodes = append(nodes, n)
	}
	used := make([]bool, len(nodes))
	for _, n := range nodes {
		if n.Op != api.NdNum && n.Op != api.NdPar {
			used[n.A] = true
			used[n.B] = used[n.B] || slices.Contains(opsOfTwo(), n.Op)
		}
	}
	last := len(nodes) - 1
	for i := range last {
		if !used[i] {
			nodes = append(nodes, two(oneOf(g, opsOfTwo()...), len(nodes)-1, i))
		}
	}
	return tapeOf(2, nodes...)
}

// R7, R3: nothing but what is valid is taken, and what comes with an error is nothing: also from what came before.
func TestErrorsLeaveNothing(t *testing.T) {
	x := stepOf(api.NdMul, 2)
	if l, e := back.Slopes(x, knowns("1, 2"), 9); l != nil || e != api.ErrArg {
		t.Errorf("Slopes = %s, %d", shown(l...), e)
	}
	slopesAre(t, "after an error", x, "1, 2, 2", 9, "2, 1")
	if a, l, e := back.Of(x, knowns("1"), 9); l != nil || e != api.ErrArg || !same(a, unknown()) {
		t.Errorf("Of = %s, %s, %d", shown(a), shown(l...), e)
	}
	ofIs(t, "after an error", x, "1, 2", 9, "2", "2, 1")
}
