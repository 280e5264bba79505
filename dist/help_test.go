package dist_test

import (
	"encoding/binary"
	"math"
	"math/big"
	"math/rand/v2"
	"slices"
	"strconv"
	"strings"
	"testing"

	"stepstone/api"
	"stepstone/dist"
	"stepstone/fore"
	"stepstone/tape"
)

// The chapters' limits.
const (
	mostNodes = 20000
	mostPars  = 200
	mostLevel = 30
)

func opsOfTwo() []uint8 { return []uint8{api.NdAdd, api.NdSub, api.NdMul, api.NdDiv} }

func opsOfOne() []uint8 { return []uint8{api.NdNeg, api.NdExp, api.NdLog, api.NdRoot, api.NdNeed} }

func pow2(n int) *big.Int { return new(big.Int).Lsh(big.NewInt(1), uint(n)) }

func natOf(n *big.Int) api.Nat {
	m := make(api.Nat, (n.BitLen()+63)/64)
	bytes := n.FillBytes(make([]byte, 8*len(m)))
	for i := range m {
		m[len(m)-1-i] = binary.BigEndian.Uint64(bytes[8*i:])
	}
	return m
}

func bigOf(a api.Int) *big.Int {
	var bytes []byte
	for _, limb := range slices.Backward(a.M) {
		bytes = binary.BigEndian.AppendUint64(bytes, limb)
	}
	n := new(big.Int).SetBytes(bytes)
	if a.Neg {
		n.Neg(n)
	}
	return n
}

// odd is a normal number.
func odd(m *big.Int, e int) api.Dyad {
	if m.Sign() == 0 {
		return api.Dyad{}
	}
	n := m.TrailingZeroBits()
	return api.Dyad{M: api.Int{Neg: m.Sign() < 0, M: natOf(new(big.Int).Rsh(m, n))}, E: e + int(n)}
}

// num reads an integer, or an integer, p and an exponent, or several of these with + between them; what is even is made odd.
func num(s string) api.Dyad {
	sum, least := new(big.Int), 0
	for _, part := range strings.Split(s, "+") {
		digits, exponent, is := strings.Cut(part, "p")
		m, ok := new(big.Int).SetString(digits, 10)
		e, err := strconv.Atoi(exponent)
		if !ok || is != (err == nil) {
			panic(s + " is no number")
		}
		if low := min(e, least); low < least {
			sum.Lsh(sum, uint(least-low))
			least = low
		}
		sum.Add(sum, m.Lsh(m, uint(e-least)))
	}
	return odd(sum, least)
}

func nums(l ...string) []api.Dyad {
	var out []api.Dyad
	for _, s := range l {
		out = append(out, num(s))
	}
	return out
}

// ratOf is what a number is worth. It needs one whose exponent is not far away.
func ratOf(a api.Dyad) *big.Rat {
	m := bigOf(a.M)
	if a.E >= 0 {
		return new(big.Rat).SetInt(m.Lsh(m, uint(a.E)))
	}
	return new(big.Rat).SetFrac(m, pow2(-a.E))
}

func fracOf(x *big.Rat) api.Frac {
	return api.Frac{N: api.Int{Neg: x.Sign() < 0, M: natOf(new(big.Int).Abs(x.Num()))}, D: natOf(x.Denom())}
}

func ratio(n, d int64) api.Frac { return fracOf(big.NewRat(n, d)) }

func number(n int64) api.Node { return api.Node{Op: api.NdNum, C: ratio(n, 1)} }

func par(i int) api.Node { return api.Node{Op: api.NdPar, A: i} }

func one(op uint8, a int) api.Node { return api.Node{Op: op, A: a} }

func two(op uint8, a, b int) api.Node { return api.Node{Op: op, A: a, B: b} }

func shownNumber(a api.Dyad) string {
	text := bigOf(a.M).String()
	if len(text) > 60 {
		text = text[:25] + ".." + text[len(text)-25:]
	}
	return text + "p" + strconv.Itoa(a.E)
}

func shownPoint(q []api.Dyad) string {
	var out []string
	for _, x := range q {
		out = append(out, shownNumber(x))
	}
	return strings.Join(out, ", ")
}

func shown(a api.Ivl) string {
	return "kind " + strconv.Itoa(int(a.Kind)) + " from " + shownNumber(a.Lo) + " to " + shownNumber(a.Hi)
}

// shownTape is its steps, as far as a message has room for them.
func shownTape(x api.Tape) string {
	var out []string
	for i, n := range x.Nodes {
		if i == 60 {
			out = append(out, ".. of "+strconv.Itoa(len(x.Nodes)))
			break
		}
		s := strconv.Itoa(i) + ": Op " + strconv.Itoa(int(n.Op)) + " of " + strconv.Itoa(n.A) + " " + strconv.Itoa(n.B)
		if n.Op == api.NdNum {
			s += " " + bigOf(n.C.N).String() + "/" + bigOf(api.Int{M: n.C.D}).String()
		}
		out = append(out, s)
	}
	return "Pars " + strconv.Itoa(x.Pars) + " [" + strings.Join(out, "; ") + "]"
}

func shownAnswer(i int, e api.Errno) string {
	return strconv.Itoa(i) + ", error " + strconv.Itoa(int(e))
}

// asked is a call of Term, or, for a discrete distribution, of Count.
type asked struct {
	isCount bool
	name    string
	x       int
	k       int64
	args    []int
}

func term(name string, x int, args ...int) asked { return asked{name: name, x: x, args: args} }

func count(name string, k int64, args ...int) asked {
	return asked{isCount: true, name: name, k: k, args: args}
}

func (c asked) call(m *tape.Maker) (int, api.Errno) {
	if c.isCount {
		return dist.Count(m, c.name, c.k, c.args)
	}
	return dist.Term(m, c.name, c.x, c.args)
}

// steps are all that have to be there.
func (c asked) steps() []int {
	if c.isCount {
		return c.args
	}
	return append([]int{c.x}, c.args...)
}

func (c asked) shown() string {
	out := "Term " + strconv.Quote(c.name) + " of x " + strconv.Itoa(c.x)
	if c.isCount {
		out = "Count " + strconv.Quote(c.name) + " of k " + strconv.FormatInt(c.k, 10)
	}
	for i, a := range c.args {
		if i == 5 {
			return out + " .. of " + strconv.Itoa(len(c.args))
		}
		out += " " + strconv.Itoa(a)
	}
	return out
}

func newMaker(t *testing.T, budget int) *tape.Maker {
	t.Helper()
	m, e := tape.New(budget)
	if m == nil || e != api.OK {
		t.Fatalf("New(%d) = %v, %d", budget, m, e)
	}
	return m
}

// madeBy is the tape of all that a maker has, nothing if that is nothing.
func madeBy(m *tape.Maker) api.Tape {
	x, _ := m.Tape(0, nil)
	return x
}

// must is a step that has to be there.
func must(i int, e api.Errno) int {
	if e != api.OK {
		panic("error " + strconv.Itoa(int(e)))
	}
	return i
}

// is checks one call.
func (c asked) is(t *testing.T, what string, m *tape.Maker, want int, e api.Errno) {
	t.Helper()
	if i, got := c.call(m); i != want || got != e {
		t.Errorf("%s: %s in %s = %s, want %s", what, c.shown(), shownTape(madeBy(m)), shownAnswer(i, got), shownAnswer(want, e))
	}
}

// isMade checks what a maker has made.
func isMade(t *testing.T, what string, m *tape.Maker, pars int, nodes ...api.Node) {
	t.Helper()
	if got, want := madeBy(m), (api.Tape{Pars: pars, Nodes: nodes}); m.Len() != len(nodes) || len(nodes) > 0 && !tape.Same(got, want) {
		t.Errorf("%s: made is %s, want %s", what, shownTape(got), shownTape(want))
	}
}

// known is what is known of a step at a point.
func known(t *testing.T, m *tape.Maker, i int, q []api.Dyad, level int) api.Ivl {
	t.Helper()
	x, _ := m.Tape(i, nil)
	a, e := fore.At(x, q, level)
	if e != api.OK {
		t.Fatalf("At of %s: error %d", shownTape(x), e)
	}
	return a
}

// has tells whether a number is between bounds.
func has(a api.Ivl, x *big.Rat) bool {
	return a.Kind == api.IvSome && ratOf(a.Lo).Cmp(x) <= 0 && x.Cmp(ratOf(a.Hi)) <= 0
}

// isIn tells whether a number is between bounds that are at most 2^-bits apart.
func isIn(a api.Ivl, x *big.Rat, bits int) bool {
	if !has(a, x) {
		return false
	}
	width := new(big.Rat).Sub(ratOf(a.Hi), ratOf(a.Lo))
	return width.Cmp(new(big.Rat).SetFrac(big.NewInt(1), pow2(bits))) <= 0
}

func oneOf[T any](g *rand.Rand, l ...T) T { return l[g.IntN(len(l))] }

// farIntegers are beyond any row of steps.
func farIntegers() []int {
	return []int{math.MinInt, math.MinInt + 1, -1 << 32, -1 << 31, 1 << 31, 1 << 32, math.MaxInt - 1, math.MaxInt}
}

// farCounts are as far as k goes, and next to that.
func farCounts() []int64 {
	return []int64{math.MinInt64, math.MinInt64 + 1, -1 << 32, -1 << 31, -3, -2, -1, 0, 1, 2, 3, 100, 1 << 31, 1 << 32, 1<<53 + 1, math.MaxInt64 - 1, math.MaxInt64}
}
