package back_test

import (
	"math/rand/v2"
	"slices"
	"strconv"
	"testing"

	"stepstone/api"
	"stepstone/back"
	"stepstone/fore"
)

// ofVals is what Run tells.
func ofVals(t *testing.T, x api.Tape, box string, p int) []api.Ivl {
	t.Helper()
	vals, e := fore.Run(x, knowns(box), p)
	if e != api.OK {
		t.Fatalf("Run of %s, %s: %d", shownTape(x), box, e)
	}
	return vals
}

// P19.2: what is known of Out, and the slopes, of steps of one and of two parameters.
func TestOf(t *testing.T) {
	for _, r := range []struct {
		op        uint8
		box       string
		p         int
		out, want string
	}{
		{api.NdAdd, "1 2, 3 5", 9, "4 7", "1, 1"},
		{api.NdSub, "1 2, 3 5", 9, "-4 -1", "1, -1"},
		{api.NdMul, "-1 2, 3 4", 9, "-4 8", "3 4, -1 2"},
		{api.NdMul, "5, 45", 2, "3p6 1p8", "1p5 3p4, 1p2 3p1"},
		{api.NdDiv, "1, 2", 9, "1p-1", "1p-1, -1p-2"},
		{api.NdDiv, "-6 9, 3", 9, "-2 3", "341p-10 171p-9, -1 171p-8"},
		{api.NdDiv, "1, 0", 9, "!", "!, !"},
		{api.NdDiv, "1, -1 1", 9, "?", "?, ?"},
		{api.NdDiv, "1, 0 1", 9, "?", "?, ?"},
		{api.NdDiv, "?, 1", 9, "?", "?, ?"},
		{api.NdDiv, "0, !", 9, "!", "!, !"},
		{api.NdNeg, "-2 3", 1, "-3 2", "-1"},
		{api.NdNeg, "45", 1, "-45", "-1"},
		{api.NdExp, "0", 9, "1", "1"},
		{api.NdExp, "0 1", 4, "1 11p-2", "1 11p-2"},
		{api.NdExp, "131072", 4, "?", "?"},
		{api.NdLog, "1", 9, "0", "1"},
		{api.NdLog, "1 2", 3, "0 3p-2", "1p-1 1"},
		{api.NdLog, "0", 3, "!", "!"},
		{api.NdLog, "-1", 3, "!", "!"},
		{api.NdLog, "-1 1", 3, "?", "?"},
		{api.NdLog, "1p4001", 3, "?", "?"},
		{api.NdRoot, "4", 9, "2", "1p-2"},
		{api.NdRoot, "1 4", 9, "1 2", "1p-2 1p-1"},
		{api.NdRoot, "0 4", 9, "?", "?"},
		{api.NdRoot, "0", 9, "!", "!"},
		{api.NdNeed, "1p-9 5", 9, "0", "0"},
		{api.NdNeed, "0", 9, "!", "!"},
		{api.NdNeed, "-1 1", 9, "?", "?"},
		{api.NdNeed, "?", 9, "?", "?"},
	} {
		ofIs(t, "Op "+strconv.Itoa(int(r.op)), stepOf(r.op, len(knowns(r.box))), r.box, r.p, r.out, r.want)
	}
}

// P19.2: the same step as A and B: a square is no narrower in its slopes for it.
func TestOfOneTwice(t *testing.T) {
	ofIs(t, "sum", tapeOf(1, par(0), two(api.NdAdd, 0, 0)), "1 2", 9, "2 4", "2")
	ofIs(t, "difference", tapeOf(1, par(0), two(api.NdSub, 0, 0)), "1 2", 9, "-1 1", "0")
	ofIs(t, "square", tapeOf(1, par(0), two(api.NdMul, 0, 0)), "-1 2", 9, "0 4", "-2 4")
	ofIs(t, "quotient", tapeOf(1, par(0), two(api.NdDiv, 0, 0)), "1 2", 9, "1p-1 2", "-3p-1 3p-2")
	ofIs(t, "quotient of 0", tapeOf(1, par(0), two(api.NdDiv, 0, 0)), "0", 9, "!", "!")
}

// P19.2: NdNeed on the way from a parameter to Out.
func TestOfNeed(t *testing.T) {
	// The parameter is needed to be above 0, and times 7.
	x := tapeOf(1, par(0), one(api.NdNeed, 0), number(7, 1), two(api.NdMul, 0, 2), two(api.NdAdd, 3, 1))
	ofIs(t, "above 0", x, "3", 9, "21", "7")
	ofIs(t, "above 0", x, "1p-1 3", 9, "7p-1 21", "7")
	ofIs(t, "at 0", x, "0", 9, "!", "!")
	ofIs(t, "below 0", x, "-3", 9, "!", "!")
	ofIs(t, "around 0", x, "-3 3", 9, "?", "?")
	// All ways go through it.
	y := tapeOf(2, par(0), par(1), two(api.NdMul, 0, 1), one(api.NdExp, 2), one(api.NdNeed, 3), one(api.NdExp, 4))
	ofIs(t, "through it", y, "3, 5", 40, "1", "0, 0")
	ofIs(t, "through it, not known", y, "3, ?", 40, "?", "?, ?")
}

// P19.2: parameters in a box, which Out does not depend on, may be anything; with a step that is not live, too.
func TestOfNotLive(t *testing.T) {
	x := tapeOf(3, par(0), par(1), one(api.NdLog, 1), two(api.NdMul, 0, 0), two(api.NdDiv, 3, 1), par(2))
	for _, other := range []string{"?", "!", "0", "-1 1", "-5"} {
		ofIs(t, other, withOut(x, 3), "3, "+other+", "+other, 9, "9", "6, 0, 0")
		ofIs(t, other, withOut(x, 0), "3, "+other+", "+other, 9, "3", "1, 0, 0")
		ofIs(t, other, withOut(x, 5), other+", "+other+", 3", 9, "3", "0, 0, 1")
	}
	ofIs(t, "not known", withOut(x, 1), "3, ?, 5", 9, "?", "?, ?, ?")
	ofIs(t, "not there", withOut(x, 1), "3, !, 5", 9, "!", "!, !, !")
	ofIs(t, "not there, by a logarithm", withOut(x, 2), "3, 0, 5", 9, "!", "!, !, !")
}

// P19.2: without a parameter.
func TestOfNoParameter(t *testing.T) {
	x := tapeOf(0, number(3, 1), one(api.NdNeg, 0), one(api.NdLog, 1), number(0, 1), one(api.NdExp, 3))
	for out, want := range []string{"3", "-3", "!", "0", "1"} {
		ofIs(t, "no parameter", withOut(x, out), "", 9, want, "")
	}
	if a, l, e := back.Of(tapeOf(0, number(3, 1)), []api.Ivl{}, 9); !same(a, known("3")) || len(l) != 0 || e != api.OK {
		t.Errorf("Of = %s, %s, %d", shown(a), shown(l...), e)
	}
}

// Errors: those of layer 18's Run.
func TestOfErrors(t *testing.T) {
	x := tapeOf(2, par(0), par(1), two(api.NdMul, 0, 1))
	for _, p := range noBits() {
		failsOf(t, "bits", api.ErrArg, x, knowns("1, 2"), p)
		failsOf(t, "bits, of what is not known", api.ErrArg, x, knowns("?, !"), p)
		failsOf(t, "bits, and the box", api.ErrArg, x, nil, p)
		failsOf(t, "bits, without a parameter", api.ErrArg, tapeOf(0, number(1, 1)), nil, p)
	}
	for _, p := range []int{1, 2, mostFine - 1, mostFine} {
		ofBox(t, x, knowns("1, 3p-1"), p)
		ofBox(t, tapeOf(0, number(1, 3)), nil, p)
	}
	for _, pars := range []int{0, 1, 2, 3, mostPars - 1, mostPars} {
		y := tapeOf(pars, number(1, 3), number(2, 1), two(api.NdMul, 0, 1))
		for _, a := range knowns("1p-5 3, ?, !, 0") {
			for _, n := range []int{0, 1, 2, 3, pars - 1, pars, pars + 1, 2*pars + 1, 10000} {
				box := slices.Repeat([]api.Ivl{a}, max(n, 0))
				if len(box) == pars {
					ofBox(t, y, box, 40)
				} else {
					failsOf(t, "length", api.ErrArg, y, box, 40)
				}
			}
		}
	}
	for _, a := range noIvls() {
		for i := range 2 {
			for _, box := range [][]api.Ivl{knowns("1, 2"), knowns("?, ?"), knowns("!, !")} {
				box[i] = a
				failsOf(t, "place "+strconv.Itoa(i), api.ErrArg, x, box, 50)
				failsOf(t, "place "+strconv.Itoa(i), api.ErrArg, tapeOf(2, number(1, 1)), box, 50)
			}
		}
	}
}

// P19.2: random tapes and boxes; Of is what Slopes is of what Run tells.
func TestOfAny(t *testing.T) {
	g := rand.New(rand.NewPCG(19, 3))
	met := map[uint8]int{}
	for range 6000 {
		x := anyTape(g, 25)
		box, p := anyBox(g, x.Pars), oneOf(g, 1, 2, 3, 8, 32, 53, 64, 65, 128, 1+g.IntN(300))
		a, l := ofBox(t, x, box, p)
		vals, _ := fore.Run(x, box, p)
		again, e := back.Slopes(x, vals, p)
		if e != api.OK || !allSame(again, l) {
			t.Errorf("%s, %s, %d bits: Slopes = %s, %d, but Of %s", shownTape(x), shown(box...), p, shown(again...), e, shown(l...))
		}
		for _, b := range l {
			met[b.Kind]++
			if a.Kind != api.IvSome && b.Kind != a.Kind {
				t.Errorf("%s, %s: Out is %s, but a slope %s", shownTape(x), shown(box...), shown(a), shown(b))
			}
		}
	}
	for _, kind := range []uint8{api.IvUnknown, api.IvSome, api.IvUndef} {
		if met[kind] < 500 {
			t.Errorf("only %d slopes of kind %d", met[kind], kind)
		}
	}
}
