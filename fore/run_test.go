package fore_test

import (
	"math/big"
	"math/rand/v2"
	"slices"
	"strconv"
	"testing"

	"stepstone/api"
)

// P18.2: an ordinary tape.
func TestRun(t *testing.T) {
	x := ordinary()
	// By hand: 1 less 3/7 is 4/7, less -1 is 11/7; its square is 121/49, of which a seventh is 121/343.
	l := runs(t, x, knowns("1, -1, 0"), 200)
	for i, want := range map[int]*big.Rat{
		0: big.NewRat(1, 1), 1: big.NewRat(-3, 7), 2: big.NewRat(-1, 1), 3: big.NewRat(7, 1), 4: big.NewRat(4, 7), 5: big.NewRat(11, 7),
		6: big.NewRat(121, 49), 7: big.NewRat(121, 343), 8: big.NewRat(-121, 343), 12: new(big.Rat),
	} {
		if !contains(l[i], want) || !isNarrow(l[i], 190) {
			t.Errorf("step %d is %s, want %s", i, shown(l[i]), want.RatString())
		}
	}
	if !contains(l[10], big.NewRat(-121, 343)) || !isNarrow(l[10], 180) {
		t.Errorf("the logarithm of the exponential of %s is %s", shown(l[8]), shown(l[10]))
	}
	if l[17].Kind != api.IvUndef || l[16].Kind != api.IvSome {
		t.Errorf("steps behind Out are %s", shown(l[16:]...))
	}
	for _, box := range []string{"0, 0, 0", "-1 1, -1p-9 3, 7 8", "?, 1, 1", "1, !, 1", "1, 1, ?", "1, 1, !", "1p900, 1, 1", "?, !, ?"} {
		for _, p := range []int{1, 2, 3, 31, 32, 33, 64, 992, mostFine} {
			runs(t, x, knowns(box), p)
		}
	}
}

// contains tells whether an interval contains a number.
func contains(a api.Ivl, x *big.Rat) bool {
	return a.Kind == api.IvUnknown || a.Kind == api.IvSome && ratOf(a.Lo).Cmp(x) <= 0 && ratOf(a.Hi).Cmp(x) >= 0
}

func width(a api.Ivl) *big.Rat { return new(big.Rat).Sub(ratOf(a.Hi), ratOf(a.Lo)) }

// isNarrow tells whether bounds are at most 2^-bits apart.
func isNarrow(a api.Ivl, bits int) bool {
	return a.Kind == api.IvSome && width(a).Cmp(new(big.Rat).SetFrac(big.NewInt(1), pow2(bits))) <= 0
}

// Errors: what p may be.
func TestRunBits(t *testing.T) {
	x := tapeOf(1, par(0), number(1, 3), two(api.NdAdd, 0, 1), one(api.NdExp, 2))
	for _, p := range []int{1, 2, 31, 32, 33, 63, 64, 65, 992, 993, mostFine - 1, mostFine} {
		runs(t, x, knowns("1p-1"), p)
		runs(t, tapeOf(0, number(1, 3)), nil, p)
	}
	for _, p := range noBits() {
		fails(t, "bits", api.ErrArg, x, knowns("1p-1"), p)
		fails(t, "bits", api.ErrArg, tapeOf(0, number(1, 3)), nil, p)
		fails(t, "bits, and the box", api.ErrArg, x, nil, p)
		fails(t, "bits, and what the box has", api.ErrArg, x, []api.Ivl{{Kind: 3}}, p)
		fails(t, "bits, of what is not known", api.ErrArg, x, knowns("?"), p)
		fails(t, "bits, of what is not", api.ErrArg, x, knowns("!"), p)
	}
}

// Errors: how many intervals a box has.
func TestRunLength(t *testing.T) {
	for _, pars := range []int{0, 1, 2, 3, mostPars - 1, mostPars} {
		x := tapeOf(pars, number(1, 3))
		if pars > 0 {
			x = tapeOf(pars, par(pars-1), number(1, 3), two(api.NdMul, 1, 0), par(0))
		}
		for _, a := range knowns("1p-5 3, ?, !, 0") {
			for _, n := range []int{0, 1, 2, 3, pars - 2, pars - 1, pars, pars + 1, 2*pars + 1, 10000} {
				box := slices.Repeat([]api.Ivl{a}, max(n, 0))
				if len(box) == pars {
					runs(t, x, box, 40)
				} else {
					fails(t, "length", api.ErrArg, x, box, 40)
					fails(t, "length, and the bits", api.ErrArg, x, box, 0)
				}
			}
		}
	}
	if l := runs(t, tapeOf(0, number(1, 1)), []api.Ivl{}, 9); !allSame(l, knowns("1")) {
		t.Errorf("without a parameter: %s", shown(l...))
	}
	fails(t, "no box", api.ErrArg, tapeOf(2, number(1, 1)), nil, 9)
}

// noIvls are not valid.
func noIvls() []api.Ivl {
	l := []api.Ivl{
		{Kind: 3}, {Kind: 255}, {Kind: 3, Lo: num("1"), Hi: num("2")}, some(num("2"), num("1")), some(num("1p-9"), num("0")),
		{Hi: num("1")}, {Lo: num("-1")}, {Kind: api.IvUndef, Lo: num("1"), Hi: num("1")}, {Kind: api.IvUndef, Hi: num("1")}, {Lo: api.Dyad{E: 1}},
		some(small(2, 0), small(2, 0)), some(small(1, 0), small(2, 0)), some(small(-2, 0), small(1, 0)), some(api.Dyad{E: 1}, num("1")),
		some(api.Dyad{M: api.Int{Neg: true}}, num("1")), some(num("-1"), api.Dyad{M: api.Int{M: api.Nat{0}}}), some(num("-1"), api.Dyad{M: api.Int{M: api.Nat{1, 0}}}),
	}
	for _, x := range noDyads() {
		l = append(l, some(x, x), some(num("-1"), x), some(x, num("1")), api.Ivl{Lo: x, Hi: x})
	}
	return l
}

// Errors: an interval that is not valid, at each place, whether a step has it or not.
func TestRunNotValid(t *testing.T) {
	tapes := []api.Tape{tapeOf(3, number(1, 1)), tapeOf(3, par(1)), tapeOf(3, par(0), par(1), par(2), two(api.NdAdd, 0, 1), two(api.NdMul, 2, 3))}
	for _, x := range tapes {
		for _, a := range noIvls() {
			for i := range 3 {
				for _, box := range [][]api.Ivl{knowns("1, 2, 3"), knowns("?, ?, ?"), knowns("!, !, !")} {
					box[i] = a
					fails(t, "place "+strconv.Itoa(i), api.ErrArg, x, box, 50)
				}
			}
			fails(t, "length, too", api.ErrArg, x, []api.Ivl{a}, 50)
			fails(t, "bits, too", api.ErrArg, x, []api.Ivl{known("1"), known("1"), a}, -1)
		}
		runs(t, x, knowns("1, 2, 3"), 50)
	}
	box := slices.Repeat(knowns("1 2"), mostPars)
	for _, i := range []int{0, 100, mostPars - 1} {
		bad := slices.Clone(box)
		bad[i] = noIvls()[3]
		fails(t, "of many", api.ErrArg, tapeOf(mostPars, number(1, 1)), bad, 50)
	}
	runs(t, tapeOf(mostPars, number(1, 1)), box, 50)
}

// P18.2: a number to p bits; a parameter as the box has it.
func TestRunNumbers(t *testing.T) {
	third := tapeOf(0, number(1, 3))
	for p, want := range map[int]string{1: "1p-2 1p-1", 2: "1p-2 3p-3", 4: "5p-4 11p-5", 5: "21p-6 11p-5"} {
		if l := runs(t, third, nil, p); !allSame(l, knowns(want)) {
			t.Errorf("1/3 to %d bits is %s, want %s", p, shown(l...), want)
		}
	}
	numbers := []*big.Rat{new(big.Rat), big.NewRat(-1, 1), big.NewRat(45, 1), big.NewRat(-45, 64), big.NewRat(22, 7), big.NewRat(-1, 1<<62), new(big.Rat).SetInt(plus(pow2(500), 1)), new(big.Rat).SetFrac(pow2(300), plus(pow2(299), -1)), new(big.Rat).SetInt(allOnes(mostBits)), new(big.Rat).SetFrac(big.NewInt(-1), allOnes(mostBits-5000))}
	for _, x := range numbers {
		for _, p := range []int{1, 2, 3, 5, 6, 7, 64, 500, 501, 502, mostFine} {
			want := some(rounded(x, p, false), rounded(x, p, true))
			if l := runs(t, tapeOf(2, numberOf(x)), knowns("1, 2"), p); !allSame(l, []api.Ivl{want}) {
				t.Errorf("to %d bits: %s, want %s", p, shown(l...), shown(want))
			}
		}
	}
	box := knowns("1p-1 21845p-3, -1048577p-5 -1, ?, !, 0, -1p-90 1p90")
	box = append(box, some(odd(plus(pow2(3000), 1), -9), odd(allOnes(3100), 5)), some(small(-1, far), small(1, far)), some(small(1, -far), odd(allOnes(mostBits), far)))
	var nodes []api.Node
	var want []api.Ivl
	for i := range box {
		nodes = append(nodes, par(len(box)-1-i), par(i))
		want = append(want, box[len(box)-1-i], box[i])
	}
	for _, p := range []int{1, 2, 64, mostFine} {
		if l := runs(t, tapeOf(len(box), nodes...), box, p); !allSame(l, want) {
			t.Errorf("to %d bits parameters are %s, want %s", p, shown(l...), shown(want...))
		}
	}
}

// row is what is known of a step of two, or of one, parameters.
type row struct {
	op      uint8
	box     string
	p       int
	want    string
	comment string
}

func rows() []row {
	return []row{
		{api.NdAdd, "1 2, 3 5", 2, "1p2 1p3", "layer 7's example"},
		{api.NdAdd, "1 2, 3 5", 9, "4 7", ""},
		{api.NdAdd, "1, 1p-20", 3, "1 5p-2", "rounded outwards"},
		{api.NdAdd, "1p1048576, 1p-1048576", 9, "?", "too far apart for layer 5"},
		{api.NdSub, "1 2, 3 5", 9, "-4 -1", ""},
		{api.NdSub, "1, 1", 9, "0 0", ""},
		{api.NdSub, "1 2, 1 2", 9, "-1 1", "two parameters, and not one"},
		{api.NdMul, "-1 2, 3 4", 9, "-4 8", "layer 7's example"},
		{api.NdMul, "-1 2, -1 2", 9, "-2 4", "equal in value, but not one step"},
		{api.NdMul, "3, 3", 3, "1p3 5p1", "equal in value, to few bits"},
		{api.NdMul, "1p600000, 1p600000", 9, "?", "too great for layer 5"},
		{api.NdDiv, "1, 3", 4, "5p-4 11p-5", "layer 7's example"},
		{api.NdDiv, "1, 0", 4, "!", "by 0 to 0"},
		{api.NdDiv, "0, 0", 4, "!", "by 0 to 0"},
		{api.NdDiv, "1, -1 1", 4, "?", "by what contains 0"},
		{api.NdDiv, "0, -1 1", 4, "?", "by what contains 0"},
		{api.NdDiv, "1, 0 1", 4, "?", "by what begins with 0"},
		{api.NdDiv, "1, -1 0", 4, "?", "by what ends with 0"},
		{api.NdDiv, "-1 2, 1p-1 4", 9, "-2 4", ""},
		{api.NdDiv, "-6 9, -3 -3", 9, "-3 2", ""},
		{api.NdDiv, "0, -3 -2", 9, "0 0", ""},
		{api.NdNeg, "-2 3", 1, "-3 2", ""},
		{api.NdNeg, "45 1001", 2, "-1001 -45", "it is not rounded"},
		{api.NdNeg, "0", 9, "0 0", ""},
		{api.NdExp, "0 1", 4, "1 11p-2", "layer 9's example"},
		{api.NdExp, "-1 1", 1, "1p-2 1p2", ""},
		{api.NdExp, "0", 1, "1 1", ""},
		{api.NdExp, "131072", 4, "?", "its magnitude is 2^17"},
		{api.NdExp, "-131072", 4, "?", "its magnitude is 2^17"},
		{api.NdExp, "0 131072", 4, "?", "that of a bound is"},
		{api.NdExp, "-131072 0", 4, "?", "that of a bound is"},
		{api.NdExp, "1p-4001", 4, "?", "it is not fine"},
		{api.NdExp, "1p1048576", 4, "?", ""},
		{api.NdLog, "1 2", 3, "0 3p-2", ""},
		{api.NdLog, "1p-1 1", 3, "-3p-2 0", "layer 10's example"},
		{api.NdLog, "1", 1, "0 0", ""},
		{api.NdLog, "0", 3, "!", "it is not above 0"},
		{api.NdLog, "-1", 3, "!", "it is not above 0"},
		{api.NdLog, "-2 0", 3, "!", "it is not above 0"},
		{api.NdLog, "-1 1", 3, "?", "it may be above 0"},
		{api.NdLog, "0 1p-4000", 3, "?", "it may be above 0"},
		{api.NdLog, "1 1p4001", 3, "?", "it is not fine"},
		{api.NdRoot, "2 9p-2", 4, "11p-3 3p-1", "layer 8's example"},
		{api.NdRoot, "2 2", 4, "11p-3 3p-1", "layer 8's example"},
		{api.NdRoot, "1 4", 1, "1 2", ""},
		{api.NdRoot, "0", 4, "!", "it is not above 0"},
		{api.NdRoot, "-1", 4, "!", "it is not above 0"},
		{api.NdRoot, "-1 0", 4, "!", "it is not above 0"},
		{api.NdRoot, "0 4", 4, "?", "it may be above 0"},
		{api.NdRoot, "-1 4", 4, "?", "it may be above 0"},
		{api.NdRoot, "1p1048576", 4, "1p524288 1p524288", ""},
		{api.NdNeed, "1p-1048576 5", 4, "0 0", "above 0"},
		{api.NdNeed, "7", 1, "0 0", "above 0"},
		{api.NdNeed, "0", 4, "!", "at 0"},
		{api.NdNeed, "-1 0", 4, "!", "not above 0"},
		{api.NdNeed, "-3 -1", 4, "!", "below 0"},
		{api.NdNeed, "0 1", 4, "?", "around 0"},
		{api.NdNeed, "-1 1", 4, "?", "around 0"},
	}
}

// stepOf is a tape of so many parameters, and a step of them.
func stepOf(op uint8, pars int) api.Tape {
	if pars == 1 {
		return tapeOf(1, par(0), one(op, 0))
	}
	return tapeOf(2, par(0), par(1), two(op, 0, 1))
}

// P18.2: what each Op does.
func TestRunOps(t *testing.T) {
	for _, r := range rows() {
		box := knowns(r.box)
		x := stepOf(r.op, len(box))
		if l := runs(t, x, box, r.p); len(l) != len(box)+1 || !same(l[len(box)], known(r.want)) {
			t.Errorf("Op %d of %s to %d bits is %s, want %s: %s", r.op, r.box, r.p, shown(l...), r.want, r.comment)
		}
	}
}

// P18.2: what is not known, or not there, on either side, or on both.
func TestRunKinds(t *testing.T) {
	for _, op := range opsOfTwo() {
		for box, want := range map[string]string{
			"?, ?": "?", "!, !": "!", "?, !": "!", "!, ?": "!", "1, ?": "?", "?, 1": "?", "1, !": "!", "!, 1": "!",
			"0, ?": "?", "?, 3 5": "?", "0, !": "!", "!, 0": "!", "!, -1 1": "!", "?, -1 1": "?",
		} {
			if l := runs(t, stepOf(op, 2), knowns(box), 20); !same(l[2], known(want)) {
				t.Errorf("Op %d of %s is %s, want %s", op, box, shown(l...), want)
			}
		}
		for _, a := range []string{"?", "!"} {
			if l := runs(t, tapeOf(1, par(0), two(op, 0, 0)), knowns(a), 20); !same(l[1], known(a)) {
				t.Errorf("Op %d of one step twice, %s, is %s", op, a, shown(l...))
			}
		}
	}
	for _, op := range opsOfOne() {
		for _, a := range []string{"?", "!"} {
			if l := runs(t, stepOf(op, 1), knowns(a), 20); !same(l[1], known(a)) {
				t.Errorf("Op %d of %s is %s", op, a, shown(l...))
			}
		}
	}
	// Layer 7: of what is not known, divided by 0, nothing is known.
	if l := runs(t, stepOf(api.NdDiv, 2), knowns("?, 0"), 20); !same(l[2], unknown()) {
		t.Errorf("the quotient by 0 is %s", shown(l...))
	}
}

// P18.2: a step by itself is squared, two steps that are equal are not.
func TestRunSquare(t *testing.T) {
	for box, want := range map[string][2]string{
		"-1 2": {"0 4", "-2 4"}, "-3 -1": {"1 9", "1 9"}, "0": {"0", "0"}, "-2 1": {"0 4", "-2 4"}, "1 3": {"1 9", "1 9"}, "-1 1": {"0 1", "-1 1"}, "?": {"?", "?"}, "!": {"!", "!"},
	} {
		x := tapeOf(1, par(0), two(api.NdMul, 0, 0), par(0), two(api.NdMul, 0, 2), two(api.NdMul, 2, 0), two(api.NdMul, 2, 2))
		l := runs(t, x, knowns(box), 30)
		for i, k := range map[int]int{1: 0, 3: 1, 4: 1, 5: 0} {
			if !same(l[i], known(want[k])) {
				t.Errorf("of %s step %d is %s, want %s", box, i, shown(l[i]), want[k])
			}
		}
	}
	// The other Ops take no notice.
	x := tapeOf(1, par(0), two(api.NdAdd, 0, 0), two(api.NdSub, 0, 0), two(api.NdDiv, 0, 0))
	if l := runs(t, x, knowns("1 2"), 30); !allSame(l, knowns("1 2, 2 4, -1 1, 1p-1 2")) {
		t.Errorf("of 1 to 2: %s", shown(l...))
	}
	// Numbers that are the same, at two steps.
	x = tapeOf(0, number(1, 3), number(1, 3), two(api.NdMul, 0, 1), two(api.NdMul, 0, 0), one(api.NdNeg, 0), two(api.NdMul, 0, 4), two(api.NdSub, 0, 0), two(api.NdSub, 0, 1), two(api.NdMul, 6, 6), two(api.NdMul, 6, 7))
	if l := runs(t, x, nil, 2); !same(l[8], known("0 1p-6")) || !same(l[9], known("-1p-6 1p-6")) {
		t.Errorf("of 1/3: %s", shown(l...))
	}
}

// P18.2: steps that are not there spread to those that have them, and to no others.
func TestRunSpread(t *testing.T) {
	x := tapeOf(2,
		par(0), par(1), one(api.NdLog, 0), one(api.NdExp, 2), two(api.NdMul, 3, 1), one(api.NdNeed, 4), two(api.NdMul, 1, 1),
		two(api.NdAdd, 6, 5), one(api.NdRoot, 6), two(api.NdDiv, 6, 0), two(api.NdSub, 8, 9), one(api.NdNeg, 10))
	for box, want := range map[string]string{
		"-1, 3": "-1, 3, !, !, !, !, 9, !, 3, -9, 3p2, -3p2",
		"0, 3":  "0, 3, !, !, !, !, 9, !, 3, !, !, !",
		"?, 3":  "?, 3, ?, ?, ?, ?, 9, ?, 3, ?, ?, ?",
		"!, 3":  "!, 3, !, !, !, !, 9, !, 3, !, !, !",
		"1, ?":  "1, ?, 0, 1, ?, ?, ?, ?, ?, ?, ?, ?",
		"1, 3":  "1, 3, 0, 1, 3, 0, 9, 9, 3, 9, -6, 6",
		"1, -3": "1, -3, 0, 1, -3, !, 9, !, 3, 9, -6, 6",
	} {
		if l := runs(t, x, knowns(box), 60); !allSame(l, knowns(want)) {
			t.Errorf("of %s: %s, want %s", box, shown(l...), want)
		}
	}
}

// P18.2: all steps are told, whatever Out is, and what is told.
func TestRunOut(t *testing.T) {
	x := ordinary()
	box := knowns("1 2, 3p-1, -1 1")
	want := runs(t, x, box, 70)
	for i := range x.Nodes {
		y := withOut(x, i)
		y.Tells = []api.Tell{{Name: "a", At: len(x.Nodes) - 1 - i}}
		if got := runs(t, y, box, 70); !allSame(got, want) {
			t.Errorf("with Out %d: %s, want %s", i, shown(got...), shown(want...))
		}
	}
	y := tapeOf(x.Pars+1, x.Nodes...)
	if got := runs(t, y, append(slices.Clone(box), unknown()), 70); !allSame(got, want) {
		t.Errorf("with a parameter more: %s, want %s", shown(got...), shown(want...))
	}
}

// long is a tape of so many steps, which goes through the Ops that keep numbers small.
func long(n int) api.Tape {
	l := []api.Node{par(0), par(1), number(1, 3)}
	for i := 3; i < n; i++ {
		switch i % 5 {
		case 0:
			l = append(l, two(api.NdAdd, i-1, i-2))
		case 1:
			l = append(l, two(api.NdSub, i-1, i-2))
		case 2:
			l = append(l, two(api.NdDiv, i-1, 2))
		case 3:
			l = append(l, one(api.NdNeg, i-1))
		case 4:
			l = append(l, two(api.NdMul, i-1, 2))
		}
	}
	return tapeOf(2, l...)
}

// P18.2, limits: the most steps, and the most parameters.
func TestRunLong(t *testing.T) {
	x := long(mostNodes)
	if l := runs(t, x, knowns("1 2, -1p-9"), 50); len(l) != mostNodes {
		t.Errorf("%d steps", len(l))
	}
	runs(t, x, knowns("?, 1"), 50)
	runs(t, x, knowns("1, !"), mostFine)
	var l []api.Node
	var box []api.Ivl
	for i := range mostPars {
		l = append(l, par(i))
		box = append(box, some(small(int64(2*i+1), -3), small(int64(2*i+3), 5)))
	}
	for i := range mostNodes - mostPars {
		l = append(l, two(api.NdAdd, i, len(l)-1))
	}
	runs(t, tapeOf(mostPars, l...), box, 100)
	runs(t, tapeOf(1, slices.Repeat([]api.Node{par(0)}, mostNodes)...), knowns("7 9"), 1)
	chain := []api.Node{par(0)}
	for i := range mostNodes - 1 {
		chain = append(chain, one(api.NdExp, i))
	}
	if l := runs(t, tapeOf(1, chain...), knowns("0"), 20); l[4].Kind != api.IvSome || l[6].Kind != api.IvUnknown || l[mostNodes-1].Kind != api.IvUnknown {
		t.Errorf("exponentials of exponentials: %s", shown(l[:8]...))
	}
}

// P18.2: random tapes and boxes.
func TestRunAny(t *testing.T) {
	g := rand.New(rand.NewPCG(18, 2))
	met := map[[2]uint8]int{}
	for range 6000 {
		x := anyTape(g, 25)
		l := runs(t, x, anyBox(g, x.Pars), oneOf(g, 1, 2, 3, 8, 32, 53, 64, 65, 128, 1+g.IntN(300)))
		for i, n := range x.Nodes {
			met[[2]uint8{n.Op, l[i].Kind}]++
		}
	}
	for op := api.NdPar; op <= api.NdNeed; op++ {
		for _, kind := range []uint8{api.IvUnknown, api.IvSome, api.IvUndef} {
			if n := met[[2]uint8{op, kind}]; n < 50 {
				t.Errorf("only %d steps with Op %d were of kind %d", n, op, kind)
			}
		}
	}
}

// P18.2: what Run says of each step with bounds, held against rational numbers.
func TestRunRationals(t *testing.T) {
	g := rand.New(rand.NewPCG(18, 3))
	met := map[uint8]int{}
	for range 3000 {
		x := anyTape(g, 15)
		p := oneOf(g, 1, 2, 3, 8, 32, 64, 1+g.IntN(150))
		box := anyBox(g, x.Pars)
		l := runs(t, x, box, p)
		for i, n := range x.Nodes {
			if n.Op == api.NdNum || n.Op == api.NdPar || l[n.A].Kind != api.IvSome || l[n.B].Kind != api.IvSome || isFar(l[n.A]) || isFar(l[n.B]) {
				continue
			}
			if want, is := byRationals(n, l[n.A], l[n.B], p); is {
				met[n.Op]++
				if !same(l[i], want) {
					t.Errorf("%s, %s, %d bits: step %d is %s, want %s", shownTape(x), shown(box...), p, i, shown(l[i]), shown(want))
				}
			}
		}
	}
	for _, op := range append(opsOfTwo(), api.NdNeg, api.NdNeed) {
		if met[op] < 300 {
			t.Errorf("only %d steps with Op %d", met[op], op)
		}
	}
}

// isFar tells whether an interval has bounds that rational numbers take long for.
func isFar(a api.Ivl) bool {
	return max(a.Lo.E, a.Hi.E) > 5000 || min(a.Lo.E, a.Hi.E) < -5000
}
