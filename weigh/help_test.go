package weigh_test

import (
	"encoding/binary"
	"math"
	"math/big"
	"math/rand/v2"
	"slices"
	"strconv"
	"strings"
	"testing"

	"stepstone/api"
	"stepstone/bits"
)

// The chapters' limits.
const (
	mostGrid  = 60
	mostCount = 64
	mostLevel = 30
	mostPars  = 200
	mostNodes = 20000
	mostBits  = 64 * 2048
	fineBits  = 64 * 64
	lowest    = -1000
)

func pow2(n int) *big.Int { return new(big.Int).Lsh(big.NewInt(1), uint(n)) }

// near is 2 to the power of n, and so much more.
func near(n int, more int64) *big.Int { return new(big.Int).Add(pow2(n), big.NewInt(more)) }

func minus(n *big.Int) *big.Int { return new(big.Int).Neg(n) }

func natOf(n *big.Int) api.Nat {
	m := make(api.Nat, (n.BitLen()+63)/64)
	bytes := n.FillBytes(make([]byte, 8*len(m)))
	for i := range m {
		m[len(m)-1-i] = binary.BigEndian.Uint64(bytes[8*i:])
	}
	return m
}

func intOf(n *big.Int) api.Int { return api.Int{Neg: n.Sign() < 0, M: natOf(n)} }

func intsOf(l ...*big.Int) []api.Int {
	out := make([]api.Int, 0, len(l))
	for _, n := range l {
		out = append(out, intOf(n))
	}
	return out
}

func ints(l ...int64) []api.Int {
	out := make([]api.Int, 0, len(l))
	for _, n := range l {
		out = append(out, intOf(big.NewInt(n)))
	}
	return out
}

func bigOf(a api.Int) *big.Int {
	var bytes []byte
	for _, limb := range slices.Backward(a.M) {
		bytes = binary.BigEndian.AppendUint64(bytes, limb)
	}
	n := new(big.Int).SetBytes(bytes)
	if a.Neg {
		n.Neg(n)
	}
	return n
}

// topped has limbs of 0 on top, and a sign also where it is 0.
func topped(a api.Int, n int) api.Int {
	return api.Int{Neg: a.Neg || len(a.M) == 0, M: append(slices.Clone(a.M), make(api.Nat, n)...)}
}

func isNormal(a api.Int) bool { return len(a.M) == 0 && !a.Neg || len(a.M) > 0 && a.M[len(a.M)-1] != 0 }

func rat(n, d int64) *big.Rat { return big.NewRat(n, d) }

func ratio(n, d *big.Int) *big.Rat { return new(big.Rat).SetFrac(n, d) }

func whole(n *big.Int) *big.Rat { return new(big.Rat).SetInt(n) }

func inverse(d *big.Int) *big.Rat { return ratio(big.NewInt(1), d) }

func fracOf(x *big.Rat) api.Frac { return timesOf(x, big.NewInt(1)) }

func frac(n, d int64) api.Frac { return fracOf(rat(n, d)) }

// timesOf is x with both numbers times k, so not in lowest terms.
func timesOf(x *big.Rat, k *big.Int) api.Frac {
	return api.Frac{N: intOf(new(big.Int).Mul(x.Num(), k)), D: natOf(new(big.Int).Mul(x.Denom(), k))}
}

// odd is a normal number: m times 2^e.
func odd(m *big.Int, e int) api.Dyad {
	if m.Sign() == 0 {
		return api.Dyad{}
	}
	n := m.TrailingZeroBits()
	return api.Dyad{M: intOf(new(big.Int).Rsh(m, n)), E: e + int(n)}
}

// ratOf needs a number whose exponent is not far away.
func ratOf(a api.Dyad) *big.Rat {
	m := bigOf(a.M)
	if a.E >= 0 {
		return whole(m.Lsh(m, uint(a.E)))
	}
	return ratio(m, pow2(-a.E))
}

func some(lo, hi api.Dyad) api.Ivl { return api.Ivl{Kind: api.IvSome, Lo: lo, Hi: hi} }

func undef() api.Ivl { return api.Ivl{Kind: api.IvUndef} }

// just is what is known of n by d, which is a dyadic number.
func just(n, d int64) api.Ivl {
	x := odd(big.NewInt(n), -bitsOf(d)+1)
	return some(x, x)
}

func bitsOf(n int64) int { return big.NewInt(n).BitLen() }

func sameIvl(a, b api.Ivl) bool {
	return a.Kind == b.Kind && sameDyad(a.Lo, b.Lo) && sameDyad(a.Hi, b.Hi)
}

func sameDyad(a, b api.Dyad) bool {
	return a.E == b.E && a.M.Neg == b.M.Neg && slices.Equal(a.M.M, b.M.M)
}

func number(n, d int64) api.Node { return numberOf(rat(n, d)) }

func numberOf(x *big.Rat) api.Node { return api.Node{Op: api.NdNum, C: fracOf(x)} }

func par(i int) api.Node { return api.Node{Op: api.NdPar, A: i} }

func one(op uint8, a int) api.Node { return api.Node{Op: op, A: a} }

func two(op uint8, a, b int) api.Node { return api.Node{Op: op, A: a, B: b} }

// tapeOf is one whose Out is its last node.
func tapeOf(pars int, nodes ...api.Node) api.Tape {
	return api.Tape{Pars: pars, Out: len(nodes) - 1, Nodes: nodes}
}

// plain is the parameter itself.
func plain() api.Tape { return tapeOf(1, par(0)) }

// line is x times the parameter.
func line(x *big.Rat) api.Tape { return tapeOf(1, par(0), numberOf(x), two(api.NdMul, 0, 1)) }

// way is one of Grid 0, Level 0, one step of 1, and each Mass 1.
func way(pars int) api.Frog {
	return api.Frog{Count: 1, Step: frac(1, 1), Mass: slices.Repeat([]api.Frac{frac(1, 1)}, pars)}
}

func gridded(pars, grid int) api.Frog {
	f := way(pars)
	f.Grid = grid
	return f
}

// massive is a way of so many Mass.
func massive(l ...*big.Rat) api.Frog {
	f := way(0)
	for _, x := range l {
		f.Mass = append(f.Mass, fracOf(x))
	}
	return f
}

// at is a place, without a push.
func at(q ...int64) api.State { return api.State{Q: ints(q...), P: make([]api.Int, len(q))} }

// by is a push, at the place of zeros.
func by(p ...int64) api.State { return api.State{Q: make([]api.Int, len(p)), P: ints(p...)} }

// farIntegers are beyond any limit.
func farIntegers() []int {
	return []int{math.MinInt, math.MinInt + 1, -1 << 32, -1 << 20, -61, -31, -2, -1, 201, 1 << 20, 1 << 32, math.MaxInt - 1, math.MaxInt}
}

// noNumbers are not above 0, or not valid.
func noNumbers() []api.Frac {
	one, long := api.Nat{1}, natOf(pow2(mostBits))
	return []api.Frac{
		{}, {D: one}, {D: api.Nat{3, 0}}, {N: api.Int{M: one}}, {N: api.Int{M: one}, D: api.Nat{0, 0}},
		{N: api.Int{Neg: true}, D: one}, {N: api.Int{Neg: true, M: one}, D: one}, {N: api.Int{Neg: true, M: api.Nat{0}}, D: one},
		{N: api.Int{Neg: true, M: one}, D: api.Nat{7, 1}}, {N: api.Int{M: long}, D: one}, {N: api.Int{M: one}, D: long},
		{N: api.Int{M: long}, D: long}, {N: api.Int{M: append(long[:len(long):len(long)], 0)}, D: one},
	}
}

// someNumbers are above 0, in many ways of being written.
func someNumbers() []api.Frac {
	top := near(mostBits, -1)
	return []api.Frac{
		frac(1, 1), frac(1, 3), frac(7, 2), timesOf(rat(2, 3), big.NewInt(6)), timesOf(rat(1, 1), top),
		fracOf(whole(top)), fracOf(inverse(top)), fracOf(ratio(pow2(mostBits-1), top)),
		{N: topped(intOf(big.NewInt(5)), 3), D: api.Nat{7, 0, 0}},
		{N: topped(intOf(top), 2), D: append(natOf(top), 0)},
	}
}

// noTapes are not valid.
func noTapes() []api.Tape {
	good := func(change func(*api.Tape)) api.Tape {
		x := tapeOf(1, par(0), number(2, 3), two(api.NdMul, 0, 1))
		change(&x)
		return x
	}
	return []api.Tape{
		{}, {Pars: 1}, {Pars: 1, Out: -1},
		good(func(x *api.Tape) { x.Pars = 0 }),
		good(func(x *api.Tape) { x.Pars = -1 }),
		good(func(x *api.Tape) { x.Pars = mostPars + 1 }),
		good(func(x *api.Tape) { x.Out = 3 }),
		good(func(x *api.Tape) { x.Tells = []api.Tell{{Name: "x", At: 3}} }),
		good(func(x *api.Tape) { x.Nodes[0].A = 1 }),
		good(func(x *api.Tape) { x.Nodes[1].C = timesOf(rat(2, 3), big.NewInt(2)) }),
		good(func(x *api.Tape) { x.Nodes[2].B = 2 }),
		good(func(x *api.Tape) { x.Nodes[2].Op = 12 }),
		tapeOf(1, slices.Repeat([]api.Node{par(0)}, mostNodes+1)...),
	}
}

// script makes bytes of bits that are written as 0 and 1; what is missing of the last byte is 0.
func script(digits string) string {
	out := make([]byte, (len(digits)+7)/8)
	for i, c := range digits {
		if c == '1' {
			out[i/8] |= 0x80 >> (i % 8)
		}
	}
	return string(out)
}

// rowOf is a source of which just those bits are left that are written as 0 and 1.
func rowOf(t *testing.T, row string) (s *bits.Source, ahead int) {
	t.Helper()
	ahead = (8 - len(row)%8) % 8
	s = bits.New(script(strings.Repeat("1", ahead) + row))
	if _, e := s.Number(ahead); e != api.OK {
		t.Fatal("the bits ahead can't be passed over")
	}
	return s, ahead
}

// driedOf is a source that has been asked for a bit after its last one.
func driedOf(t *testing.T, text string) *bits.Source {
	t.Helper()
	s := bits.New(text)
	s.Number(8*len(text) + 1)
	if !s.Dry() {
		t.Fatal("the source is not dry")
	}
	return s
}

// digitsOf are the first n bits of a number from 0 to 1, cut off.
func digitsOf(x *big.Rat, n int) string {
	m := new(big.Int).Mul(x.Num(), pow2(n))
	row := m.Div(m, x.Denom()).Text(2)
	return strings.Repeat("0", max(n-len(row), 0)) + row
}

func anyRow(g *rand.Rand, n int) string {
	row := make([]byte, n)
	for i := range row {
		row[i] = '0' + byte(g.IntN(2))
	}
	return string(row)
}

func cut(s string) string {
	if len(s) > 60 {
		return s[:25] + ".." + s[len(s)-25:]
	}
	return s
}

func shownDyad(a api.Dyad) string { return cut(bigOf(a.M).String()) + "p" + strconv.Itoa(a.E) }

func shownIvl(a api.Ivl) string {
	return "kind " + strconv.Itoa(int(a.Kind)) + " from " + shownDyad(a.Lo) + " to " + shownDyad(a.Hi)
}

func shownInts(l []api.Int) string {
	var out []string
	for _, n := range l {
		out = append(out, cut(bigOf(n).String()))
	}
	return "(" + strings.Join(out, " ") + ")"
}

func shownStates(l ...api.State) string {
	out := ""
	for _, s := range l {
		out += " at " + shownInts(s.Q) + " by " + shownInts(s.P)
	}
	return out
}

// shownTape is its steps, as far as a message has room for them.
func shownTape(x api.Tape) string {
	var out []string
	for i, n := range x.Nodes {
		if i == 40 {
			out = append(out, ".. of "+strconv.Itoa(len(x.Nodes)))
			break
		}
		s := strconv.Itoa(i) + ": Op " + strconv.Itoa(int(n.Op)) + " of " + strconv.Itoa(n.A) + " " + strconv.Itoa(n.B)
		if c := valid(n.C); n.Op == api.NdNum && c != nil {
			s += " " + cut(c.RatString())
		}
		out = append(out, s)
	}
	return "Pars " + strconv.Itoa(x.Pars) + " Out " + strconv.Itoa(x.Out) + " [" + strings.Join(out, "; ") + "]"
}

func shownWay(f api.Frog) string {
	out := "Grid " + strconv.Itoa(f.Grid) + " Mass"
	for i, m := range f.Mass {
		if i == 10 {
			return out + " .. of " + strconv.Itoa(len(f.Mass))
		}
		if v := valid(m); v != nil {
			out += " " + cut(v.RatString())
		} else {
			out += " (not valid)"
		}
	}
	return out
}

func oneOf[T any](g *rand.Rand, l ...T) T { return l[g.IntN(len(l))] }

// anyNode is valid behind so many steps.
func anyNode(g *rand.Rand, steps, pars int) api.Node {
	switch k := g.IntN(10); {
	case k < 3 && pars > 0:
		return par(g.IntN(pars))
	case k < 4 || steps == 0:
		return number(g.Int64N(9)-2, 1+g.Int64N(5))
	case k < 8:
		return two(oneOf(g, api.NdAdd, api.NdSub, api.NdMul, api.NdMul, api.NdDiv), g.IntN(steps), g.IntN(steps))
	default:
		return one(oneOf(g, api.NdNeg, api.NdExp, api.NdLog, api.NdRoot, api.NdNeed), g.IntN(steps))
	}
}

// anyTape is valid.
func anyTape(g *rand.Rand, most int) api.Tape {
	x := api.Tape{Pars: g.IntN(4)}
	for i := range 1 + g.IntN(most) {
		x.Nodes = append(x.Nodes, anyNode(g, i, x.Pars))
	}
	x.Out = len(x.Nodes) - 1 - g.IntN(len(x.Nodes))*g.IntN(2)
	for range g.IntN(3) {
		x.Tells = append(x.Tells, api.Tell{Name: oneOf(g, "", "a", "b[1]"), At: g.IntN(len(x.Nodes))})
	}
	return x
}

// anyBits is above 0, of up to n bits.
func anyBits(g *rand.Rand, n int) *big.Int {
	m := new(big.Int)
	for i := range 1 + g.IntN(n) {
		m.SetBit(m, i, uint(g.IntN(2)))
	}
	if m.Sign() == 0 {
		return big.NewInt(1)
	}
	return m
}

// anyAbove0 is valid, in any way of being written.
func anyAbove0(g *rand.Rand) api.Frac {
	x := rat(1+g.Int64N(8), 1+g.Int64N(8))
	switch g.IntN(8) {
	case 0:
		x = ratio(anyBits(g, 140), anyBits(g, 140))
	case 1:
		x = rat(1, 1<<g.IntN(12))
	}
	y := timesOf(x, big.NewInt(1+g.Int64N(2)*g.Int64N(7)))
	y.D = append(y.D, make(api.Nat, g.IntN(2))...)
	return y
}

func anyWay(g *rand.Rand, pars int) api.Frog {
	f := api.Frog{
		Grid:  oneOf(g, 0, 1, 2, 4, 8, 20, mostGrid, g.IntN(mostGrid+1)),
		Level: g.IntN(mostLevel + 1),
		Count: g.IntN(mostCount + 1),
		Step:  anyAbove0(g),
	}
	for range pars {
		f.Mass = append(f.Mass, anyAbove0(g))
	}
	return f
}

func anyInt(g *rand.Rand, grid int) api.Int {
	n := new(big.Int)
	switch g.IntN(12) {
	case 0, 1:
	case 2:
		n.SetInt64(g.Int64N(9) - 4)
	case 3:
		n.Sub(anyBits(g, 200), pow2(g.IntN(200)))
	default:
		// Of the size of a parameter from -2 to 2 or so.
		n.Rsh(n.Mul(big.NewInt(g.Int64N(1<<20)-1<<19), pow2(grid)), 18)
	}
	return topped(intOf(n), g.IntN(2))
}

func anyInts(g *rand.Rand, pars, grid int) []api.Int {
	var out []api.Int
	for range pars {
		out = append(out, anyInt(g, grid))
	}
	return out
}

func anyState(g *rand.Rand, pars, grid int) api.State {
	return api.State{Q: anyInts(g, pars, grid), P: anyInts(g, pars, grid)}
}

// anyOther is another state for the same way: now and then at the same place, or by the same push, however these are written.
func anyOther(g *rand.Rand, s api.State, grid int) api.State {
	other := anyState(g, len(s.Q), grid)
	if g.IntN(4) == 0 {
		other.Q = again(g, s.Q)
	}
	if g.IntN(4) == 0 {
		other.P = again(g, s.P)
	}
	return other
}

// again is the same numbers, written in any way.
func again(g *rand.Rand, l []api.Int) []api.Int {
	var out []api.Int
	for _, n := range l {
		out = append(out, topped(intOf(bigOf(n)), g.IntN(3)))
	}
	return out
}
