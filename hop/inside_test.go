package hop_test

import (
	"math/big"
	"math/rand/v2"
	"testing"

	"stepstone/api"
)

// edgeOf is the greatest integer of a box.
func edgeOf(grid, box int) *big.Int { return new(big.Int).Mul(big.NewInt(int64(box)), pow2(grid)) }

func plus(n *big.Int, more int64) *big.Int { return new(big.Int).Add(n, big.NewInt(more)) }

// P27.1: the chapter's places.
func TestInsideExamples(t *testing.T) {
	insideIs(t, "at the edge", ints(16), 4, 1, true)
	insideIs(t, "just outside", ints(17), 4, 1, false)
	insideIs(t, "at the other edge", ints(-16), 4, 1, true)
	insideIs(t, "just outside", ints(-17), 4, 1, false)
}

// P27.1: each edge, and next to it, on either side.
func TestInsideEdges(t *testing.T) {
	for grid := range mostGrid + 1 {
		for _, box := range []int{1, 2, 3, 5, 16, 17, 255, 256, 511, 512, 513, 999, 1000} {
			edge := edgeOf(grid, box)
			for _, n := range []*big.Int{edge, plus(edge, -1), new(big.Int), big.NewInt(1), new(big.Int).Rsh(edge, 1)} {
				insideIs(t, "in the box", intsOf(n), grid, box, true)
				insideIs(t, "in the box", intsOf(minus(n)), grid, box, true)
			}
			for _, n := range []*big.Int{plus(edge, 1), plus(edge, 2), new(big.Int).Lsh(edge, 1), new(big.Int).Lsh(edge, 64), new(big.Int).Lsh(big.NewInt(1), 128)} {
				insideIs(t, "outside", intsOf(n), grid, box, false)
				insideIs(t, "outside", intsOf(minus(n)), grid, box, false)
			}
		}
	}
}

// P27.1: every box, at some grids.
func TestInsideBoxes(t *testing.T) {
	for box := 1; box <= mostBox; box++ {
		for _, grid := range []int{0, 1, 54, 55, mostGrid} {
			edge := edgeOf(grid, box)
			insideIs(t, "every box", intsOf(edge), grid, box, true)
			insideIs(t, "every box", intsOf(minus(edge)), grid, box, true)
			insideIs(t, "every box", intsOf(plus(edge, 1)), grid, box, false)
			insideIs(t, "every box", intsOf(minus(plus(edge, 1))), grid, box, false)
		}
	}
}

// P27.1: where there is no such box, or no such grid, no place is in it, not even one without an integer.
func TestInsideNoBox(t *testing.T) {
	for _, q := range [][]api.Int{nil, {}, ints(0), ints(0, 0, 0)} {
		for _, box := range append(farIntegers(), 0, -1000, 1001, 1024, 1<<16) {
			if box >= 1 && box <= mostBox {
				continue
			}
			for _, grid := range []int{0, 4, mostGrid, mostGrid + 1} {
				insideIs(t, "no box", q, grid, box, false)
			}
		}
		for _, grid := range append(farIntegers(), -60, 61, 64, 128, 131072) {
			for _, box := range []int{0, 1, 7, mostBox, mostBox + 1} {
				insideIs(t, "no grid", q, grid, box, false)
			}
		}
		for _, grid := range []int{0, 1, mostGrid - 1, mostGrid} {
			for _, box := range []int{1, 2, mostBox - 1, mostBox} {
				insideIs(t, "in any box", q, grid, box, true)
			}
		}
	}
}

// P27.1: of several integers just one is outside.
func TestInsideOne(t *testing.T) {
	for _, size := range []int{1, 2, 3, 7, mostPars, mostPars + 1} {
		for at := range size {
			for _, sign := range []int64{1, -1} {
				q := make([]api.Int, size)
				for i := range q {
					q[i] = ints(int64(i%3-1) * 24)[0]
				}
				q[at] = ints(sign * 24)[0]
				insideIs(t, "all at the edge, or between", q, 3, 3, true)
				q[at] = ints(sign * 25)[0]
				insideIs(t, "one outside", q, 3, 3, false)
			}
		}
	}
}

// P27.1, R7: integers count as they are, however they are written, and however long they are.
func TestInsideWritten(t *testing.T) {
	for _, n := range []int64{0, 1, 15, 16, -16, -1} {
		for _, limbs := range []int{0, 1, 2, 70, 2049} {
			insideIs(t, "limbs of 0 on top", []api.Int{topped(ints(n)[0], limbs)}, 4, 1, true)
		}
	}
	for _, limbs := range []int{0, 1, 3} {
		insideIs(t, "limbs of 0 on top", []api.Int{topped(ints(17)[0], limbs)}, 4, 1, false)
		insideIs(t, "limbs of 0 on top", []api.Int{topped(ints(-17)[0], limbs)}, 4, 1, false)
	}
	insideIs(t, "0 with a sign", []api.Int{{Neg: true}, {Neg: true, M: api.Nat{0, 0}}}, 0, 1, true)
	for _, bits := range []int{64, 65, 70, 128, 192, fineBits, mostBits - 1, mostBits, 2 * mostBits} {
		for _, n := range []*big.Int{pow2(bits), near(bits, 1), near(bits+3, -1)} {
			insideIs(t, "long", intsOf(n), 0, mostBox, false)
			insideIs(t, "long", intsOf(minus(n)), 0, mostBox, false)
			insideIs(t, "long, behind others", intsOf(big.NewInt(1), minus(n)), 0, mostBox, false)
		}
	}
	// The lowest limb alone would be in the box.
	insideIs(t, "long", []api.Int{{M: api.Nat{1, 1}}}, 0, 1, false)
	insideIs(t, "long", []api.Int{{Neg: true, M: api.Nat{0, 0, 1, 0}}}, mostGrid, mostBox, false)
	// A box of more than one limb: both limbs count.
	insideIs(t, "two limbs", []api.Int{{M: api.Nat{0, 62}}}, mostGrid, 992, true)
	insideIs(t, "two limbs", []api.Int{{M: api.Nat{1, 62}}}, mostGrid, 992, false)
	insideIs(t, "two limbs", []api.Int{{M: api.Nat{1<<64 - 1, 61}}}, mostGrid, 992, true)
}

// P27.1: places, grids and boxes of any sort.
func TestAnyInside(t *testing.T) {
	g := rand.New(rand.NewPCG(27, 1))
	counts := map[bool]int{}
	for range 30000 {
		grid, box := g.IntN(mostGrid+1), 1+g.IntN(mostBox)
		if g.IntN(20) == 0 {
			grid = oneOf(g, farIntegers()...)
		}
		if g.IntN(20) == 0 {
			box = oneOf(g, farIntegers()...)
		}
		var q []api.Int
		for range g.IntN(5) {
			n := edgeOf(min(max(grid, 0), mostGrid), min(max(box, 1), mostBox))
			if g.IntN(2) == 0 {
				n.Sub(n, edgeOf(0, g.IntN(mostBox)))
			}
			n.Add(n, big.NewInt(oneOf(g, 0, 0, 1, -1, g.Int64N(1000)-500)))
			if g.IntN(2) == 0 {
				n.Neg(n)
			}
			q = append(q, topped(intOf(n), g.IntN(3)))
		}
		counts[inside(t, q, grid, box)]++
	}
	if counts[true] < 5000 || counts[false] < 5000 {
		t.Error(counts)
	}
}
