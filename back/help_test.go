package back_test

import (
	"encoding/binary"
	"math"
	"math/big"
	"math/rand/v2"
	"slices"
	"strconv"
	"strings"
	"testing"

	"stepstone/api"
	"stepstone/back"
	"stepstone/fore"
)

// The chapters' limits.
const (
	mostFine  = 4000
	mostNodes = 20000
	mostPars  = 200
	mostBits  = 64 * 2048
	far       = 1 << 20
)

func opsOfTwo() []uint8 { return []uint8{api.NdAdd, api.NdSub, api.NdMul, api.NdDiv} }

func opsOfOne() []uint8 { return []uint8{api.NdNeg, api.NdExp, api.NdLog, api.NdRoot, api.NdNeed} }

func pow2(n int) *big.Int { return new(big.Int).Lsh(big.NewInt(1), uint(n)) }

func plus(n *big.Int, d int64) *big.Int { return new(big.Int).Add(n, big.NewInt(d)) }

// allOnes is 2^n - 1.
func allOnes(n int) *big.Int { return plus(pow2(n), -1) }

func natOf(n *big.Int) api.Nat {
	m := make(api.Nat, (n.BitLen()+63)/64)
	bytes := n.FillBytes(make([]byte, 8*len(m)))
	for i := range m {
		m[len(m)-1-i] = binary.BigEndian.Uint64(bytes[8*i:])
	}
	return m
}

func bigOf(a api.Int) *big.Int {
	var bytes []byte
	for _, limb := range slices.Backward(a.M) {
		bytes = binary.BigEndian.AppendUint64(bytes, limb)
	}
	n := new(big.Int).SetBytes(bytes)
	if a.Neg {
		n.Neg(n)
	}
	return n
}

// written is a number as it is written, not as it is normal.
func written(m *big.Int, e int) api.Dyad {
	return api.Dyad{M: api.Int{Neg: m.Sign() < 0, M: natOf(m)}, E: e}
}

func small(m int64, e int) api.Dyad { return written(big.NewInt(m), e) }

// odd is a normal number, which may be out of the bounds.
func odd(m *big.Int, e int) api.Dyad {
	if m.Sign() == 0 {
		return api.Dyad{}
	}
	n := m.TrailingZeroBits()
	return written(new(big.Int).Rsh(m, n), e+int(n))
}

// num reads an integer, or an integer, p and an exponent; what is even is made odd.
func num(s string) api.Dyad {
	digits, exponent, is := strings.Cut(s, "p")
	m, ok := new(big.Int).SetString(digits, 10)
	e, err := strconv.Atoi(exponent)
	if !ok || is != (err == nil) {
		panic(s + " is no number")
	}
	return odd(m, e)
}

func nums(l ...string) []api.Dyad {
	var out []api.Dyad
	for _, s := range l {
		out = append(out, num(s))
	}
	return out
}

func some(lo, hi api.Dyad) api.Ivl { return api.Ivl{Kind: api.IvSome, Lo: lo, Hi: hi} }

func unknown() api.Ivl { return api.Ivl{} }

func undef() api.Ivl { return api.Ivl{Kind: api.IvUndef} }

// known reads both bounds, or the one number that both are; ? is an unknown one, and ! one that is not defined.
func known(s string) api.Ivl {
	lo, hi, ok := strings.Cut(s, " ")
	switch {
	case s == "?":
		return unknown()
	case s == "!":
		return undef()
	case !ok:
		hi = lo
	}
	return some(num(lo), num(hi))
}

// knowns reads intervals with commas between them.
func knowns(s string) []api.Ivl {
	var out []api.Ivl
	if s != "" {
		for x := range strings.SplitSeq(s, ", ") {
			out = append(out, known(x))
		}
	}
	return out
}

// ratOf is what a number is worth. It needs one whose exponent is not far away.
func ratOf(a api.Dyad) *big.Rat {
	m := bigOf(a.M)
	if a.E >= 0 {
		return new(big.Rat).SetInt(m.Lsh(m, uint(a.E)))
	}
	return new(big.Rat).SetFrac(m, pow2(-a.E))
}

// rounded is a rational number to p bits.
func rounded(x *big.Rat, p int, up bool) api.Dyad {
	if up {
		a := rounded(new(big.Rat).Neg(x), p, false)
		a.M.Neg = !a.M.Neg && len(a.M.M) > 0
		return a
	}
	n, d := new(big.Int).Set(x.Num()), new(big.Int).Set(x.Denom())
	// So many units of 2^e are in the number that they have p bits at least: what is cut off behind the p highest ones is cut off downwards, too.
	e := n.BitLen() - d.BitLen() - p - 1
	if e < 0 {
		n.Lsh(n, uint(-e))
	} else {
		d.Lsh(d, uint(e))
	}
	n.Div(n, d)
	if more := n.BitLen() - p; more > 0 {
		n.Rsh(n, uint(more))
		e += more
	}
	return odd(n, e)
}

func fracOf(x *big.Rat) api.Frac {
	return api.Frac{N: api.Int{Neg: x.Sign() < 0, M: natOf(x.Num())}, D: natOf(x.Denom())}
}

func valueOf(c api.Frac) *big.Rat {
	return new(big.Rat).SetFrac(bigOf(c.N), bigOf(api.Int{M: c.D}))
}

func number(n, d int64) api.Node { return numberOf(big.NewRat(n, d)) }

func numberOf(x *big.Rat) api.Node { return api.Node{Op: api.NdNum, C: fracOf(x)} }

func par(i int) api.Node { return api.Node{Op: api.NdPar, A: i} }

func one(op uint8, a int) api.Node { return api.Node{Op: op, A: a} }

func two(op uint8, a, b int) api.Node { return api.Node{Op: op, A: a, B: b} }

// tapeOf is one whose Out is its last node.
func tapeOf(pars int, nodes ...api.Node) api.Tape {
	return api.Tape{Pars: pars, Out: len(nodes) - 1, Nodes: nodes}
}

// withOut is a tape with another Out.
func withOut(x api.Tape, out int) api.Tape {
	x.Out = out
	return x
}

// ordinary has each Op, one step of each twice used, some not live, some behind Out, and several that are told.
func ordinary() api.Tape {
	return api.Tape{
		Pars: 3,
		Out:  14,
		Nodes: []api.Node{
			par(0), number(-3, 7), par(1), number(7, 1),
			two(api.NdAdd, 0, 1), two(api.NdSub, 4, 2), two(api.NdMul, 5, 5), two(api.NdDiv, 6, 3),
			one(api.NdNeg, 7), one(api.NdExp, 8), one(api.NdLog, 9), one(api.NdRoot, 3), one(api.NdNeed, 11),
			two(api.NdMul, 10, 11), two(api.NdAdd, 13, 12), two(api.NdSub, 14, 14), par(2), two(api.NdDiv, 16, 12),
		},
		Tells: []api.Tell{{Name: "x", At: 0}, {Name: "y[1]", At: 17}, {Name: "", At: 14}},
	}
}

func shownNumber(a api.Dyad) string {
	text := bigOf(a.M).String()
	if len(text) > 60 {
		text = text[:25] + ".." + text[len(text)-25:]
	}
	return text + "p" + strconv.Itoa(a.E)
}

// shown is intervals as far as a message has room for them.
func shown(l ...api.Ivl) string {
	var out []string
	for i, a := range l {
		if i == 30 {
			out = append(out, ".. of "+strconv.Itoa(len(l)))
			break
		}
		out = append(out, strconv.Itoa(i)+": kind "+strconv.Itoa(int(a.Kind))+" from "+shownNumber(a.Lo)+" to "+shownNumber(a.Hi))
	}
	return "(" + strings.Join(out, "; ") + ")"
}

// shownTape is its steps, as far as a message has room for them.
func shownTape(x api.Tape) string {
	var out []string
	for i, n := range x.Nodes {
		if i == 60 {
			out = append(out, ".. of "+strconv.Itoa(len(x.Nodes)))
			break
		}
		s := strconv.Itoa(i) + ": Op " + strconv.Itoa(int(n.Op)) + " of " + strconv.Itoa(n.A) + " " + strconv.Itoa(n.B)
		if n.Op == api.NdNum && len(n.C.N.M) < 3 && len(n.C.D) > 0 && len(n.C.D) < 3 {
			s += " " + valueOf(n.C).RatString()
		}
		out = append(out, s)
	}
	return "Pars " + strconv.Itoa(x.Pars) + " Out " + strconv.Itoa(x.Out) + " [" + strings.Join(out, "; ") + "]"
}

func sameNumber(a, b api.Dyad) bool {
	return a.E == b.E && a.M.Neg == b.M.Neg && slices.Equal(a.M.M, b.M.M)
}

// same tells whether intervals are, to the last limb, written in one way.
func same(a, b api.Ivl) bool {
	return a.Kind == b.Kind && sameNumber(a.Lo, b.Lo) && sameNumber(a.Hi, b.Hi)
}

func allSame(a, b []api.Ivl) bool { return slices.EqualFunc(a, b, same) }

// slopesOf is what Slopes returns, which must be what is computed by hand, each time.
func slopesOf(t *testing.T, x api.Tape, vals []api.Ivl, p int) []api.Ivl {
	t.Helper()
	want := byHand(x, vals, p)
	for range 2 {
		if got, e := back.Slopes(x, vals, p); e != api.OK || !allSame(got, want) {
			t.Errorf("Slopes of %s, %s, %d bits = %s, %d, want %s", shownTape(x), shown(vals...), p, shown(got...), e, shown(want...))
		}
	}
	return want
}

// slopesAre checks Slopes against what is known without computing.
func slopesAre(t *testing.T, what string, x api.Tape, vals string, p int, want string) {
	t.Helper()
	if got := slopesOf(t, x, knowns(vals), p); !allSame(got, knowns(want)) {
		t.Errorf("%s: Slopes of %s, %s, %d bits = %s, want %s", what, shownTape(x), vals, p, shown(got...), want)
	}
}

// fails checks that Slopes returns an error, and nothing else.
func fails(t *testing.T, what string, want api.Errno, x api.Tape, vals []api.Ivl, p int) {
	t.Helper()
	if got, e := back.Slopes(x, vals, p); e != want || got != nil {
		t.Errorf("%s: Slopes of %s, %s, %d bits = %s, %d, want error %d", what, shownTape(x), shown(vals...), p, shown(got...), e, want)
	}
}

// ofBox is what Of returns, which must be what Run tells of Out, and what is computed by hand from all that Run tells, each time.
func ofBox(t *testing.T, x api.Tape, box []api.Ivl, p int) (api.Ivl, []api.Ivl) {
	t.Helper()
	vals, f := fore.Run(x, box, p)
	if f != api.OK {
		t.Fatalf("Run of %s, %s, %d bits: %d", shownTape(x), shown(box...), p, f)
	}
	want := byHand(x, vals, p)
	for range 2 {
		if a, got, e := back.Of(x, box, p); e != api.OK || !same(a, vals[x.Out]) || !allSame(got, want) {
			t.Errorf("Of of %s, %s, %d bits = %s, %s, %d, want %s, %s", shownTape(x), shown(box...), p, shown(a), shown(got...), e, shown(vals[x.Out]), shown(want...))
		}
	}
	return vals[x.Out], want
}

// ofIs checks Of against what is known without computing.
func ofIs(t *testing.T, what string, x api.Tape, box string, p int, out, want string) {
	t.Helper()
	if a, got := ofBox(t, x, knowns(box), p); !same(a, known(out)) || !allSame(got, knowns(want)) {
		t.Errorf("%s: Of of %s, %s, %d bits = %s, %s, want %s, %s", what, shownTape(x), box, p, shown(a), shown(got...), out, want)
	}
}

// failsOf checks that Of returns an error, and nothing else.
func failsOf(t *testing.T, what string, want api.Errno, x api.Tape, box []api.Ivl, p int) {
	t.Helper()
	if a, got, e := back.Of(x, box, p); e != want || got != nil || !same(a, api.Ivl{}) {
		t.Errorf("%s: Of of %s, %s, %d bits = %s, %s, %d, want error %d", what, shownTape(x), shown(box...), p, shown(a), shown(got...), e, want)
	}
}

// pointOf is the box of a point whose numbers are valid, and normal.
func pointOf(q []api.Dyad) []api.Ivl {
	var out []api.Ivl
	for _, x := range q {
		out = append(out, some(x, x))
	}
	return out
}

func oneOf[T any](g *rand.Rand, l ...T) T { return l[g.IntN(len(l))] }

// farIntegers are beyond any list or number of bits.
func farIntegers() []int {
	return []int{math.MinInt, math.MinInt + 1, -1 << 32, -far, far, 1 << 32, math.MaxInt - 1, math.MaxInt}
}

// noBits are not valid.
func noBits() []int { return append(farIntegers(), 0, -1, -32, -mostFine, mostFine+1, mostFine+32) }

// anyNode is valid behind so many steps.
func anyNode(g *rand.Rand, steps, pars int) api.Node {
	switch k := g.IntN(9); {
	case k < 2 && pars > 0:
		return par(g.IntN(pars))
	case k < 3 || steps == 0:
		return number(g.Int64N(9)-2, 1+g.Int64N(5))
	case k < 7:
		return two(oneOf(g, opsOfTwo()...), g.IntN(steps), g.IntN(steps))
	default:
		return one(oneOf(g, opsOfOne()...), g.IntN(steps))
	}
}

// anyTape is valid.
func anyTape(g *rand.Rand, most int) api.Tape {
	x := api.Tape{Pars: g.IntN(4)}
	for i := range 1 + g.IntN(most) {
		x.Nodes = append(x.Nodes, anyNode(g, i, x.Pars))
	}
	x.Out = g.IntN(len(x.Nodes))
	for range g.IntN(3) {
		x.Tells = append(x.Tells, api.Tell{Name: oneOf(g, "", "a", "b[1]"), At: g.IntN(len(x.Nodes))})
	}
	return x
}

// anyNumber is normal: small, of few bits, of many bits, very near to 0, or 0.
func anyNumber(g *rand.Rand) api.Dyad {
	switch g.IntN(6) {
	case 0:
		return odd(big.NewInt(g.Int64N(9)-4), 0)
	case 1:
		return odd(big.NewInt(g.Int64N(65)-32), -g.IntN(5))
	case 2:
		return odd(big.NewInt(g.Int64()), -62)
	case 3:
		n := new(big.Int).Lsh(big.NewInt(1+g.Int64N(9)), uint(g.IntN(200)))
		return odd(plus(n, g.Int64N(3)-1), -g.IntN(200))
	case 4:
		return odd(big.NewInt(g.Int64N(9)-4), -g.IntN(100))
	default:
		return odd(big.NewInt(g.Int64N(7)-1), g.IntN(3))
	}
}

// anyKnown is an interval, mostly with bounds.
func anyKnown(g *rand.Rand) api.Ivl {
	a, b := anyNumber(g), anyNumber(g)
	switch g.IntN(14) {
	case 0:
		return unknown()
	case 1:
		return undef()
	case 2, 3, 4:
		return some(a, a)
	}
	if ratOf(a).Cmp(ratOf(b)) > 0 {
		a, b = b, a
	}
	return some(a, b)
}

func anyBox(g *rand.Rand, pars int) []api.Ivl {
	var out []api.Ivl
	for range pars {
		out = append(out, anyKnown(g))
	}
	return out
}

func anyPoint(g *rand.Rand, pars int) []api.Dyad {
	var out []api.Dyad
	for range pars {
		out = append(out, anyNumber(g))
	}
	return out
}
