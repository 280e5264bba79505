package tape_test

import (
	"math"
	"slices"
	"strconv"
	"testing"

	"stepstone/api"
	"stepstone/tape"
)

// checks tells whether a tape is valid, and whether the model says the same.
func checks(t *testing.T, what string, want api.Errno, x api.Tape) {
	t.Helper()
	check(t, x)
	if e := tape.Check(x); e != want {
		t.Errorf("%s: Check = %d, want %d", what, e, want)
	}
	if live := tape.Live(x); want != api.OK && live != nil {
		t.Errorf("%s: Live = %v, want nothing", what, live)
	}
}

// P17.1: an ordinary tape, one of each Op, and what is no Op.
func TestCheck(t *testing.T) {
	checks(t, "ordinary", api.OK, ordinary())
	checks(t, "a number", api.OK, tapeOf(0, num(1, 2)))
	checks(t, "a parameter", api.OK, tapeOf(1, par(0)))
	for _, op := range opsOfTwo() {
		checks(t, "of two", api.OK, tapeOf(0, num(1, 1), num(2, 1), two(op, 0, 1)))
		checks(t, "of two", api.OK, tapeOf(0, num(1, 1), num(2, 1), two(op, 1, 0)))
		checks(t, "of one twice", api.OK, tapeOf(0, num(1, 1), two(op, 0, 0)))
	}
	for _, op := range opsOfOne() {
		checks(t, "of one", api.OK, tapeOf(0, num(1, 1), one(op, 0)))
	}
	for _, op := range noOps() {
		for _, c := range []api.Frac{{}, ratio(1, 1)} {
			what := "Op " + strconv.Itoa(int(op))
			checks(t, what, api.ErrTape, tapeOf(1, api.Node{Op: op, C: c}))
			checks(t, what, api.ErrTape, tapeOf(1, num(1, 1), api.Node{Op: op, C: c}))
			checks(t, what, api.ErrTape, tapeOf(1, num(1, 1), num(2, 1), api.Node{Op: op, A: 1, C: c}))
			checks(t, what, api.ErrTape, tapeOf(1, num(1, 1), num(2, 1), api.Node{Op: op, A: 1, B: 1, C: c}))
		}
	}
}

// P17.1: how many nodes there may be.
func TestCheckNodes(t *testing.T) {
	checks(t, "no node", api.ErrTape, api.Tape{})
	checks(t, "no node", api.ErrTape, api.Tape{Out: -1, Nodes: []api.Node{}})
	checks(t, "no node, but parameters", api.ErrTape, api.Tape{Pars: 1})
	checks(t, "no node, but one that is told", api.ErrTape, api.Tape{Tells: []api.Tell{{}}})
	checks(t, "one node", api.OK, tapeOf(0, num(0, 1)))
	checks(t, "the most nodes", api.OK, tapeOf(0, chain(mostNodes)...))
	checks(t, "a node more", api.ErrTape, tapeOf(0, chain(mostNodes+1)...))
	more := tapeOf(0, chain(mostNodes+1)...)
	more.Out = 0
	checks(t, "a node more, which is not live", api.ErrTape, more)
	checks(t, "very many nodes", api.ErrTape, tapeOf(0, slices.Repeat([]api.Node{num(0, 1)}, 10*mostNodes)...))
	for i := range mostNodes {
		more.Nodes[i] = num(0, 1)
	}
	more.Nodes = more.Nodes[:mostNodes]
	checks(t, "as many that are all the same", api.OK, more)
	more.Nodes[mostNodes-1] = one(api.NdExp, mostNodes-1)
	checks(t, "the last one is not valid", api.ErrTape, more)
}

// P17.1: how many parameters there may be.
func TestCheckPars(t *testing.T) {
	for _, n := range []int{0, 1, 2, mostPars - 1, mostPars} {
		checks(t, "parameters that no step has", api.OK, tapeOf(n, num(1, 1)))
		if n > 0 {
			checks(t, "the last parameter", api.OK, tapeOf(n, par(n-1)))
			checks(t, "the first parameter", api.OK, tapeOf(n, par(0)))
			checks(t, "a parameter twice", api.OK, tapeOf(n, par(n-1), par(n-1)))
		}
		for _, a := range slices.Concat(farIndices(), []int{-1, n, n + 1}) {
			checks(t, "a parameter that there is not", api.ErrTape, tapeOf(n, par(a)))
			checks(t, "a parameter that there is not", api.ErrTape, tapeOf(n, num(1, 1), num(2, 1), par(a)))
		}
	}
	for _, n := range slices.Concat(farIndices(), []int{-1, -2, mostPars + 1, 2 * mostPars}) {
		checks(t, "too many, or fewer than none", api.ErrTape, tapeOf(n, num(1, 1)))
		checks(t, "too many, or fewer than none", api.ErrTape, tapeOf(n, par(0)))
		checks(t, "too many, or fewer than none", api.ErrTape, tapeOf(n, par(n-1)))
	}
	var all []api.Node
	for i := range mostPars {
		all = append(all, par(mostPars-1-i))
	}
	checks(t, "all parameters", api.OK, tapeOf(mostPars, all...))
	checks(t, "one less than there are steps of", api.ErrTape, tapeOf(mostPars-1, all...))
}

// P17.1: steps have only earlier ones.
func TestCheckSteps(t *testing.T) {
	const at = 3
	tapeWith := func(n api.Node) api.Tape {
		return tapeOf(9, num(1, 1), par(0), num(2, 1), n, num(3, 1), num(4, 1))
	}
	for i := -2; i < 8; i++ {
		want := api.ErrTape
		if i >= 0 && i < at {
			want = api.OK
		}
		for _, op := range opsOfTwo() {
			checks(t, "A", want, tapeWith(two(op, i, 1)))
			checks(t, "B", want, tapeWith(two(op, 1, i)))
			checks(t, "both", want, tapeWith(two(op, i, i)))
		}
		for _, op := range opsOfOne() {
			checks(t, "A", want, tapeWith(one(op, i)))
		}
	}
	for _, i := range farIndices() {
		for _, op := range opsOfTwo() {
			checks(t, "A far away", api.ErrTape, tapeWith(two(op, i, 1)))
			checks(t, "B far away", api.ErrTape, tapeWith(two(op, 1, i)))
		}
		for _, op := range opsOfOne() {
			checks(t, "A far away", api.ErrTape, tapeWith(one(op, i)))
		}
	}
	for _, op := range slices.Concat(opsOfOne(), opsOfTwo()) {
		checks(t, "the first step", api.ErrTape, tapeOf(9, one(op, 0)))
		checks(t, "the first step", api.ErrTape, tapeOf(9, one(op, 0), num(1, 1)))
	}
}

// P17.1: each part that an Op does not have is zero.
func TestCheckOtherParts(t *testing.T) {
	numbers := []api.Frac{
		ratio(1, 1), ratio(-1, 2), {D: api.Nat{2}},
		{N: api.Int{Neg: true}}, {N: api.Int{M: api.Nat{1}}}, {N: api.Int{M: api.Nat{1, 0}}},
	}
	tapeWith := func(n api.Node) api.Tape { return tapeOf(5, num(1, 1), num(2, 1), num(3, 1), n) }
	for _, op := range ops() {
		valid := api.Node{Op: op, A: 1, B: 2}
		switch {
		case op == api.NdNum:
			valid = num(3, 2)
		case !slices.Contains(opsOfTwo(), op):
			valid = one(op, 1)
		}
		what := "Op " + strconv.Itoa(int(op))
		checks(t, what, api.OK, tapeWith(valid))
		if op != api.NdNum {
			for _, c := range numbers {
				n := valid
				n.C = c
				checks(t, what+" with C", api.ErrTape, tapeWith(n))
			}
			for _, c := range []api.Frac{{N: api.Int{M: api.Nat{}}}, {D: api.Nat{}}} {
				n := valid
				n.C = c
				checks(t, what+" with empty lists", api.OK, tapeWith(n))
			}
		}
		for _, i := range slices.Concat(farIndices(), []int{-1, 1, 2, 3}) {
			n := valid
			n.A = i
			if op == api.NdNum {
				checks(t, what+" with A", api.ErrTape, tapeWith(n))
			}
			n = valid
			n.B = i
			if !slices.Contains(opsOfTwo(), op) {
				checks(t, what+" with B", api.ErrTape, tapeWith(n))
			}
		}
	}
}

// P17.1: numbers have to be valid and normal, as they are written.
func TestCheckNumbers(t *testing.T) {
	for i, c := range normals() {
		checks(t, "a normal number "+strconv.Itoa(i), api.OK, tapeOf(0, numOf(c)))
		checks(t, "a normal number "+strconv.Itoa(i), api.OK, tapeOf(0, num(1, 1), numOf(c), num(2, 1)))
	}
	for i, c := range slices.Concat(otherwise(), noNumbers()) {
		checks(t, "another number "+strconv.Itoa(i), api.ErrTape, tapeOf(0, numOf(c)))
		checks(t, "another number "+strconv.Itoa(i), api.ErrTape, tapeOf(0, num(1, 1), numOf(c), num(2, 1)))
		if i < 9 {
			checks(t, "another number, which is not live", api.ErrTape, api.Tape{Nodes: []api.Node{num(1, 1), numOf(c)}})
		}
	}
}

// P17.1: Out and what is told are nodes.
func TestCheckOutTells(t *testing.T) {
	x := ordinary()
	n := len(x.Nodes)
	for _, i := range slices.Concat(farIndices(), []int{-1, 0, 1, n - 1, n, n + 1}) {
		want := api.ErrTape
		if i >= 0 && i < n {
			want = api.OK
		}
		x := ordinary()
		x.Out = i
		checks(t, "Out", want, x)
		for k := range x.Tells {
			x := ordinary()
			x.Tells[k].At = i
			checks(t, "At", want, x)
		}
	}
	for _, l := range [][]api.Tell{
		nil, {}, {tell("a", 0)}, {tell("a", 0), tell("a", 0)}, {tell("a", 0), tell("a", n-1)}, {tell("", 3), tell("", 3)},
		{tell("\x00\xff[", n-1), tell("x y", 0)}, slices.Repeat([]api.Tell{tell("a", 1)}, 100000),
	} {
		x.Tells = l
		checks(t, "Tells", api.OK, x)
		x.Tells = append(slices.Clone(l), tell("b", n))
		checks(t, "Tells, and one that is no node", api.ErrTape, x)
		x.Tells = append([]api.Tell{tell("b", math.MinInt)}, l...)
		checks(t, "Tells behind one that is no node", api.ErrTape, x)
	}
}

// P17.1: all tapes of one node with some parts.
func TestCheckAllOfOne(t *testing.T) {
	numbers := []api.Frac{{}, ratio(0, 1), ratio(1, 2), ratio(2, 2), {N: api.Int{Neg: true}}, {D: api.Nat{}}}
	for op := range 256 {
		for a := -1; a < 3; a++ {
			for b := -1; b < 2; b++ {
				for _, c := range numbers {
					for pars := -1; pars < 3; pars++ {
						check(t, tapeOf(pars, api.Node{Op: uint8(op), A: a, B: b, C: c}))
					}
				}
			}
		}
	}
}

// P17.1: all tapes of three nodes, of some, and with each Out, one told.
func TestCheckAllOfThree(t *testing.T) {
	var l []api.Node
	for _, op := range []uint8{0, api.NdNum, api.NdPar, api.NdMul, api.NdLog} {
		for a := -1; a < 3; a++ {
			l = append(l, two(op, a, 0), two(op, a, 1))
		}
	}
	l = append(l, num(1, 2), numOf(api.Frac{D: api.Nat{1}}), num(2, 2))
	for i, a := range l {
		for j, b := range l {
			for k, c := range l {
				x := tapeOf(2, a, b, c)
				x.Out = (i+j+k)%5 - 1
				x.Tells = []api.Tell{tell("x", (i+2*j+3*k)%7-1)}
				check(t, x)
				x.Out, x.Tells = 1, nil
				check(t, x)
			}
		}
	}
}
