package tape_test

import (
	"math/rand/v2"
	"testing"

	"stepstone/api"
	"stepstone/tape"
)

// same holds Same of two tapes, either way, against equality in another way.
func same(t *testing.T, a, b api.Tape) bool {
	t.Helper()
	want := isSame(a, b)
	if tape.Same(a, b) != want || tape.Same(b, a) != want {
		t.Errorf("Same is %v, %v, want %v: %s and %s", tape.Same(a, b), tape.Same(b, a), want, told(a), told(b))
	}
	return want
}

func isSameTape(t *testing.T, want bool, a, b api.Tape) {
	t.Helper()
	if same(t, a, b) != want {
		t.Errorf("%s and %s: the same is %v", told(a), told(b), !want)
	}
}

// P17.1: by hand: nil lists, numbers, tapes that are not valid.
func TestSame(t *testing.T) {
	isSameTape(t, true, ordinary(), ordinary())
	isSameTape(t, true, ordinary(), filled(ordinary()))
	isSameTape(t, true, api.Tape{}, api.Tape{Nodes: []api.Node{}, Tells: []api.Tell{}})
	isSameTape(t, false, api.Tape{}, api.Tape{Nodes: []api.Node{{}}})
	isSameTape(t, false, api.Tape{}, api.Tape{Tells: []api.Tell{{}}})
	isSameTape(t, false, api.Tape{}, api.Tape{Pars: -1})
	isSameTape(t, false, api.Tape{}, api.Tape{Out: -1})
	wrong := api.Tape{Pars: -3, Out: 9, Nodes: []api.Node{{Op: 99, A: -1, B: 1 << 40, C: ratio(2, 4)}, {}}, Tells: []api.Tell{tell("x", -5)}}
	isSameTape(t, true, wrong, wrong)
	isSameTape(t, true, wrong, filled(wrong))
	isSameTape(t, false, wrong, ordinary())
	with := func(c api.Frac) api.Tape { return tapeOf(0, numOf(c)) }
	for i, a := range noNumbersAndOthers() {
		for j, b := range noNumbersAndOthers() {
			isSameTape(t, i == j, with(a), with(b))
		}
	}
	nothing := api.Node{Op: api.NdExp, C: api.Frac{N: api.Int{M: api.Nat{}}, D: api.Nat{}}}
	isSameTape(t, true, tapeOf(0, num(1, 1), nothing), tapeOf(0, num(1, 1), one(api.NdExp, 0)))
	isSameTape(t, true, with(api.Frac{}), with(api.Frac{N: api.Int{M: api.Nat{}}, D: api.Nat{}}))
	isSameTape(t, true, with(ratio(0, 1)), with(api.Frac{D: api.Nat{1}}))
}

// noNumbersAndOthers are numbers that are all written in different ways, many of them the same number.
func noNumbersAndOthers() []api.Frac {
	return []api.Frac{
		{}, ratio(0, 1), ratio(1, 1), ratio(-1, 1), ratio(1, 2), ratio(2, 4), ratio(2, 2),
		{N: api.Int{Neg: true}, D: api.Nat{1}},
		{N: api.Int{M: api.Nat{0}}, D: api.Nat{1}},
		{N: api.Int{M: api.Nat{1, 0}}, D: api.Nat{1}},
		{N: api.Int{M: api.Nat{1}}, D: api.Nat{1, 0}},
		{N: api.Int{M: api.Nat{0, 1}}, D: api.Nat{1}},
		{N: api.Int{M: api.Nat{1}}},
		{D: api.Nat{0}},
		{N: api.Int{Neg: true}},
	}
}

// P17.1: each single change of valid tapes: what Check, Live and Same say of it.
func TestEachChange(t *testing.T) {
	g := rand.New(rand.NewPCG(17, 2))
	tapes := []api.Tape{ordinary(), tapeOf(0, num(1, 2)), tapeOf(1, par(0)), tapeOf(2, par(1), one(api.NdNeed, 0), num(0, 1))}
	for range 20 {
		tapes = append(tapes, anyTape(g, 9))
	}
	count, valid := 0, 0
	for _, x := range tapes {
		was := filled(x)
		eachChange(&x, func() {
			count++
			check(t, x)
			isSameTape(t, false, was, x)
			isSameTape(t, true, x, filled(x))
			if isValid(x) {
				valid++
			}
		})
		isSameTape(t, true, was, x)
	}
	if count < 5000 || valid < count/5 || valid > count/2 {
		t.Errorf("%d changes, %d of them valid", count, valid)
	}
}

// P17.1: random tapes of a few kinds held against each other.
func TestSameAny(t *testing.T) {
	g := rand.New(rand.NewPCG(17, 3))
	met := map[bool]int{}
	for range 60000 {
		a, b := anyTape(g, 2), anyTape(g, 2)
		met[same(t, a, b)]++
	}
	if met[true] < 20 {
		t.Errorf("the same: %d, not: %d", met[true], met[false])
	}
}
