package hop_test

import (
	"encoding/binary"
	"math"
	"math/big"
	"math/rand/v2"
	"slices"
	"strconv"
	"strings"
	"testing"

	"stepstone/api"
	"stepstone/bits"
)

// The chapters' limits.
const (
	mostGrid  = 60
	mostCount = 64
	mostLevel = 30
	mostPars  = 200
	mostNodes = 20000
	mostBits  = 64 * 2048
	fineBits  = 64 * 64
	mostBox   = 1000
)

func pow2(n int) *big.Int { return new(big.Int).Lsh(big.NewInt(1), uint(n)) }

// near is 2 to the power of n, and so much more.
func near(n int, more int64) *big.Int { return new(big.Int).Add(pow2(n), big.NewInt(more)) }

func minus(n *big.Int) *big.Int { return new(big.Int).Neg(n) }

func natOf(n *big.Int) api.Nat {
	m := make(api.Nat, (n.BitLen()+63)/64)
	bytes := n.FillBytes(make([]byte, 8*len(m)))
	for i := range m {
		m[len(m)-1-i] = binary.BigEndian.Uint64(bytes[8*i:])
	}
	return m
}

func intOf(n *big.Int) api.Int { return api.Int{Neg: n.Sign() < 0, M: natOf(n)} }

func intsOf(l ...*big.Int) []api.Int {
	out := make([]api.Int, 0, len(l))
	for _, n := range l {
		out = append(out, intOf(n))
	}
	return out
}

func ints(l ...int64) []api.Int {
	out := make([]api.Int, 0, len(l))
	for _, n := range l {
		out = append(out, intOf(big.NewInt(n)))
	}
	return out
}

func bigOf(a api.Int) *big.Int {
	var bytes []byte
	for _, limb := range slices.Backward(a.M) {
		bytes = binary.BigEndian.AppendUint64(bytes, limb)
	}
	n := new(big.Int).SetBytes(bytes)
	if a.Neg {
		n.Neg(n)
	}
	return n
}

func bigsOf(l []api.Int) []*big.Int {
	var out []*big.Int
	for _, n := range l {
		out = append(out, bigOf(n))
	}
	return out
}

// topped has limbs of 0 on top, and a sign also where it is 0.
func topped(a api.Int, n int) api.Int {
	return api.Int{Neg: a.Neg || len(a.M) == 0, M: append(slices.Clone(a.M), make(api.Nat, n)...)}
}

func isNormal(a api.Int) bool { return len(a.M) == 0 && !a.Neg || len(a.M) > 0 && a.M[len(a.M)-1] != 0 }

func rat(n, d int64) *big.Rat { return big.NewRat(n, d) }

func ratio(n, d *big.Int) *big.Rat { return new(big.Rat).SetFrac(n, d) }

func whole(n *big.Int) *big.Rat { return new(big.Rat).SetInt(n) }

func inverse(d *big.Int) *big.Rat { return ratio(big.NewInt(1), d) }

func fracOf(x *big.Rat) api.Frac { return timesOf(x, big.NewInt(1)) }

func frac(n, d int64) api.Frac { return fracOf(rat(n, d)) }

// timesOf is x with both numbers times k, so not in lowest terms.
func timesOf(x *big.Rat, k *big.Int) api.Frac {
	return api.Frac{N: intOf(new(big.Int).Mul(x.Num(), k)), D: natOf(new(big.Int).Mul(x.Denom(), k))}
}

func number(n, d int64) api.Node { return numberOf(rat(n, d)) }

func numberOf(x *big.Rat) api.Node { return api.Node{Op: api.NdNum, C: fracOf(x)} }

func par(i int) api.Node { return api.Node{Op: api.NdPar, A: i} }

func one(op uint8, a int) api.Node { return api.Node{Op: op, A: a} }

func two(op uint8, a, b int) api.Node { return api.Node{Op: op, A: a, B: b} }

// tapeOf is one whose Out is its last node.
func tapeOf(pars int, nodes ...api.Node) api.Tape {
	return api.Tape{Pars: pars, Out: len(nodes) - 1, Nodes: nodes}
}

// plain is the parameter itself.
func plain() api.Tape { return tapeOf(1, par(0)) }

// way is one of Grid 0, Level 0, one step of 1, and each Mass 1.
func way(pars int) api.Frog {
	return api.Frog{Count: 1, Step: frac(1, 1), Mass: slices.Repeat([]api.Frac{frac(1, 1)}, pars)}
}

func gridded(pars, grid int) api.Frog {
	f := way(pars)
	f.Grid = grid
	return f
}

// farIntegers are beyond any limit.
func farIntegers() []int {
	return []int{math.MinInt, math.MinInt + 1, -1 << 32, -1 << 20, -61, -31, -2, -1, 201, 1 << 20, 1 << 32, math.MaxInt - 1, math.MaxInt}
}

// noNumbers are not above 0, or not valid.
func noNumbers() []api.Frac {
	one, long := api.Nat{1}, natOf(pow2(mostBits))
	return []api.Frac{
		{}, {D: one}, {D: api.Nat{3, 0}}, {N: api.Int{M: one}}, {N: api.Int{M: one}, D: api.Nat{0, 0}},
		{N: api.Int{Neg: true}, D: one}, {N: api.Int{Neg: true, M: one}, D: one}, {N: api.Int{Neg: true, M: api.Nat{0}}, D: one},
		{N: api.Int{Neg: true, M: one}, D: api.Nat{7, 1}}, {N: api.Int{M: long}, D: one}, {N: api.Int{M: one}, D: long},
		{N: api.Int{M: long}, D: long}, {N: api.Int{M: append(long[:len(long):len(long)], 0)}, D: one},
	}
}

// someNumbers are above 0, in many ways of being written.
func someNumbers() []api.Frac {
	top := near(mostBits, -1)
	return []api.Frac{
		frac(1, 1), frac(1, 3), frac(7, 2), timesOf(rat(2, 3), big.NewInt(6)), timesOf(rat(1, 1), top),
		fracOf(whole(top)), fracOf(inverse(top)), fracOf(ratio(pow2(mostBits-1), top)),
		{N: topped(intOf(big.NewInt(5)), 3), D: api.Nat{7, 0, 0}},
		{N: topped(intOf(top), 2), D: append(natOf(top), 0)},
	}
}

// noTapes are not valid.
func noTapes() []api.Tape {
	good := func(change func(*api.Tape)) api.Tape {
		x := tapeOf(1, par(0), number(2, 3), two(api.NdMul, 0, 1))
		change(&x)
		return x
	}
	return []api.Tape{
		{}, {Pars: 1}, {Pars: 1, Out: -1},
		good(func(x *api.Tape) { x.Pars = 0 }),
		good(func(x *api.Tape) { x.Pars = -1 }),
		good(func(x *api.Tape) { x.Pars = mostPars + 1 }),
		good(func(x *api.Tape) { x.Out = 3 }),
		good(func(x *api.Tape) { x.Tells = []api.Tell{{Name: "x", At: 3}} }),
		good(func(x *api.Tape) { x.Nodes[0].A = 1 }),
		good(func(x *api.Tape) { x.Nodes[1].C = timesOf(rat(2, 3), big.NewInt(2)) }),
		good(func(x *api.Tape) { x.Nodes[2].B = 2 }),
		good(func(x *api.Tape) { x.Nodes[2].Op = 12 }),
		tapeOf(1, slices.Repeat([]api.Node{par(0)}, mostNodes+1)...),
	}
}

// script makes bytes of bits that are written as 0 and 1; what is missing of the last byte is 0.
func script(digits string) string {
	out := make([]byte, (len(digits)+7)/8)
	for i, c := range digits {
		if c == '1' {
			out[i/8] |= 0x80 >> (i % 8)
		}
	}
	return string(out)
}

// rowOf is a source of which just those bits are left that are written as 0 and 1.
func rowOf(t *testing.T, row string) (s *bits.Source, ahead int) {
	t.Helper()
	ahead = (8 - len(row)%8) % 8
	s = bits.New(script(strings.Repeat("1", ahead) + row))
	if _, e := s.Number(ahead); e != api.OK {
		t.Fatal("the bits ahead can't be passed over")
	}
	return s, ahead
}

// driedOf is a source that has been asked for a bit after its last one.
func driedOf(t *testing.T, text string) *bits.Source {
	t.Helper()
	s := bits.New(text)
	s.Number(8*len(text) + 1)
	if !s.Dry() {
		t.Fatal("the source is not dry")
	}
	return s
}

func anyRow(g *rand.Rand, n int) string {
	row := make([]byte, n)
	for i := range row {
		row[i] = '0' + byte(g.IntN(2))
	}
	return string(row)
}

func cut(s string) string {
	if len(s) > 60 {
		return s[:25] + ".." + s[len(s)-25:]
	}
	return s
}

func shownInts(l []api.Int) string {
	var out []string
	for _, n := range l {
		out = append(out, cut(bigOf(n).String()))
	}
	return "(" + strings.Join(out, " ") + ")"
}

func shownFrac(a api.Frac) string {
	if x := valid(a); x != nil {
		return cut(x.RatString())
	}
	return "(not valid)"
}

// shownTape is its steps, as far as a message has room for them.
func shownTape(x api.Tape) string {
	var out []string
	for i, n := range x.Nodes {
		if i == 40 {
			out = append(out, ".. of "+strconv.Itoa(len(x.Nodes)))
			break
		}
		s := strconv.Itoa(i) + ": Op " + strconv.Itoa(int(n.Op)) + " of " + strconv.Itoa(n.A) + " " + strconv.Itoa(n.B)
		if c := valid(n.C); n.Op == api.NdNum && c != nil {
			s += " " + cut(c.RatString())
		}
		out = append(out, s)
	}
	return "Pars " + strconv.Itoa(x.Pars) + " Out " + strconv.Itoa(x.Out) + " [" + strings.Join(out, "; ") + "]"
}

func shownWay(f api.Frog) string {
	out := "Grid " + strconv.Itoa(f.Grid) + " Level " + strconv.Itoa(f.Level) + " Count " + strconv.Itoa(f.Count) + " Step " + shownFrac(f.Step) + " Mass"
	for i, m := range f.Mass {
		if i == 10 {
			return out + " .. of " + strconv.Itoa(len(f.Mass))
		}
		out += " " + shownFrac(m)
	}
	return out
}

func oneOf[T any](g *rand.Rand, l ...T) T { return l[g.IntN(len(l))] }

// anyNode is valid behind so many steps.
func anyNode(g *rand.Rand, steps, pars int) api.Node {
	switch k := g.IntN(10); {
	case k < 3 && pars > 0:
		return par(g.IntN(pars))
	case k < 4 || steps == 0:
		return number(g.Int64N(9)-2, 1+g.Int64N(5))
	case k < 8:
		return two(oneOf(g, api.NdAdd, api.NdSub, api.NdMul, api.NdMul, api.NdDiv), g.IntN(steps), g.IntN(steps))
	default:
		return one(oneOf(g, api.NdNeg, api.NdExp, api.NdLog, api.NdRoot, api.NdNeed), g.IntN(steps))
	}
}

// anyTape is valid.
func anyTape(g *rand.Rand, most int) api.Tape {
	x := api.Tape{Pars: g.IntN(4)}
	for i := range 1 + g.IntN(most) {
		x.Nodes = append(x.Nodes, anyNode(g, i, x.Pars))
	}
	x.Out = len(x.Nodes) - 1 - g.IntN(len(x.Nodes))*g.IntN(2)
	for range g.IntN(3) {
		x.Tells = append(x.Tells, api.Tell{Name: oneOf(g, "", "a", "b[1]"), At: g.IntN(len(x.Nodes))})
	}
	return x
}

// anyBits is above 0, of up to n bits.
func anyBits(g *rand.Rand, n int) *big.Int {
	m := new(big.Int)
	for i := range 1 + g.IntN(n) {
		m.SetBit(m, i, uint(g.IntN(2)))
	}
	if m.Sign() == 0 {
		return big.NewInt(1)
	}
	return m
}

// anyAbove0 is valid, in any way of being written.
func anyAbove0(g *rand.Rand) api.Frac {
	x := rat(1+g.Int64N(8), 1+g.Int64N(8))
	switch g.IntN(8) {
	case 0:
		x = ratio(anyBits(g, 140), anyBits(g, 140))
	case 1:
		x = rat(1, 1<<g.IntN(12))
	}
	y := timesOf(x, big.NewInt(1+g.Int64N(2)*g.Int64N(7)))
	y.D = append(y.D, make(api.Nat, g.IntN(2))...)
	return y
}

func anyWay(g *rand.Rand, pars int) api.Frog {
	f := api.Frog{
		Grid:  oneOf(g, 0, 1, 2, 4, 8, 20, mostGrid, g.IntN(mostGrid+1)),
		Level: g.IntN(oneOf(g, 1, 3, 3, mostLevel+1)),
		Count: 1 + g.IntN(oneOf(g, 1, 2, 5, 5, 8, 8, 8, mostCount)),
		Step:  anyAbove0(g),
	}
	for range pars {
		f.Mass = append(f.Mass, anyAbove0(g))
	}
	return f
}

func anyInt(g *rand.Rand, grid int) api.Int {
	n := new(big.Int)
	switch g.IntN(12) {
	case 0, 1:
	case 2:
		n.SetInt64(g.Int64N(9) - 4)
	case 3:
		n.Sub(anyBits(g, 200), pow2(g.IntN(200)))
	default:
		// Of the size of a parameter from -2 to 2 or so.
		n.Rsh(n.Mul(big.NewInt(g.Int64N(1<<20)-1<<19), pow2(grid)), 18)
	}
	return topped(intOf(n), g.IntN(2))
}

func anyInts(g *rand.Rand, pars, grid int) []api.Int {
	var out []api.Int
	for range pars {
		out = append(out, anyInt(g, grid))
	}
	return out
}

// bitsOf is a source of n bits, from which some were read.
func bitsOf(g *rand.Rand, n int) *bits.Source {
	s := bits.New(script(anyRow(g, n)))
	s.Number(g.IntN(min(n+1, 20)))
	return s
}

// anyTransition is one that is accepted, from a place in the box.
func anyTransition(g *rand.Rand) (api.Tape, api.Frog, int, []api.Int) {
	x := anyTape(g, 12)
	if g.IntN(5) == 0 {
		x = oneOf(g, threefold(), plain(), tapeOf(2, number(1, 3)), tapeOf(1, par(0), two(api.NdMul, 0, 0), one(api.NdNeg, 1)), tapeOf(1, par(0), one(api.NdLog, 0)))
	}
	f := anyWay(g, x.Pars)
	box := oneOf(g, 1, 2, 3, 10, mostBox, 1+g.IntN(mostBox))
	return x, f, box, anyPlace(g, x.Pars, f.Grid, box)
}

// anyPlace is in the box; now and then at its edge.
func anyPlace(g *rand.Rand, pars, grid, box int) []api.Int {
	var q []api.Int
	for range pars {
		n, edge := bigOf(anyInt(g, grid)), edgeOf(grid, box)
		switch {
		case n.CmpAbs(edge) > 0 || g.IntN(8) == 0:
			n = edge
		case g.IntN(12) == 0:
			n = new(big.Int)
		}
		if g.IntN(2) == 0 {
			n = minus(n)
		}
		q = append(q, topped(intOf(n), g.IntN(2)*g.IntN(3)))
	}
	return q
}
