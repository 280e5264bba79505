package chart_test

import (
	"encoding/binary"
	"math"
	"math/big"
	"math/rand/v2"
	"slices"
	"strconv"
	"strings"
	"testing"

	"stepstone/api"
	"stepstone/chart"
	"stepstone/tape"
)

// The chapters' limits.
const (
	mostNodes = 20000
	mostPars  = 200
	mostLevel = 30
	none      = -1
)

func opsOfTwo() []uint8 { return []uint8{api.NdAdd, api.NdSub, api.NdMul, api.NdDiv} }

func opsOfOne() []uint8 { return []uint8{api.NdNeg, api.NdExp, api.NdLog, api.NdRoot, api.NdNeed} }

func pow2(n int) *big.Int { return new(big.Int).Lsh(big.NewInt(1), uint(n)) }

func natOf(n *big.Int) api.Nat {
	m := make(api.Nat, (n.BitLen()+63)/64)
	bytes := n.FillBytes(make([]byte, 8*len(m)))
	for i := range m {
		m[len(m)-1-i] = binary.BigEndian.Uint64(bytes[8*i:])
	}
	return m
}

func bigOf(a api.Int) *big.Int {
	var bytes []byte
	for _, limb := range slices.Backward(a.M) {
		bytes = binary.BigEndian.AppendUint64(bytes, limb)
	}
	n := new(big.Int).SetBytes(bytes)
	if a.Neg {
		n.Neg(n)
	}
	return n
}

// odd is a normal number.
func odd(m *big.Int, e int) api.Dyad {
	if m.Sign() == 0 {
		return api.Dyad{}
	}
	n := m.TrailingZeroBits()
	return api.Dyad{M: api.Int{Neg: m.Sign() < 0, M: natOf(new(big.Int).Rsh(m, n))}, E: e + int(n)}
}

// num reads an integer, or an integer, p and an exponent; what is even is made odd.
func num(s string) api.Dyad {
	digits, exponent, is := strings.Cut(s, "p")
	m, ok := new(big.Int).SetString(digits, 10)
	e, err := strconv.Atoi(exponent)
	if !ok || is != (err == nil) {
		panic(s + " is no number")
	}
	return odd(m, e)
}

func nums(l ...string) []api.Dyad {
	var out []api.Dyad
	for _, s := range l {
		out = append(out, num(s))
	}
	return out
}

func some(lo, hi api.Dyad) api.Ivl { return api.Ivl{Kind: api.IvSome, Lo: lo, Hi: hi} }

// ratOf is what a number is worth. It needs one whose exponent is not far away.
func ratOf(a api.Dyad) *big.Rat {
	m := bigOf(a.M)
	if a.E >= 0 {
		return new(big.Rat).SetInt(m.Lsh(m, uint(a.E)))
	}
	return new(big.Rat).SetFrac(m, pow2(-a.E))
}

func less(a, b api.Dyad) bool { return ratOf(a).Cmp(ratOf(b)) < 0 }

func ratio(n, d int64) api.Frac {
	x := big.NewRat(n, d)
	return api.Frac{N: api.Int{Neg: x.Sign() < 0, M: natOf(x.Num())}, D: natOf(x.Denom())}
}

func number(n int64) api.Node { return api.Node{Op: api.NdNum, C: ratio(n, 1)} }

func par(i int) api.Node { return api.Node{Op: api.NdPar, A: i} }

func one(op uint8, a int) api.Node { return api.Node{Op: op, A: a} }

func two(op uint8, a, b int) api.Node { return api.Node{Op: op, A: a, B: b} }

func shownNumber(a api.Dyad) string {
	text := bigOf(a.M).String()
	if len(text) > 60 {
		text = text[:25] + ".." + text[len(text)-25:]
	}
	return text + "p" + strconv.Itoa(a.E)
}

func shown(a api.Ivl) string {
	return "kind " + strconv.Itoa(int(a.Kind)) + " from " + shownNumber(a.Lo) + " to " + shownNumber(a.Hi)
}

// shownTape is its steps, as far as a message has room for them.
func shownTape(x api.Tape) string {
	var out []string
	for i, n := range x.Nodes {
		if i == 60 {
			out = append(out, ".. of "+strconv.Itoa(len(x.Nodes)))
			break
		}
		s := strconv.Itoa(i) + ": Op " + strconv.Itoa(int(n.Op)) + " of " + strconv.Itoa(n.A) + " " + strconv.Itoa(n.B)
		if n.Op == api.NdNum {
			s += " " + bigOf(n.C.N).String() + "/" + bigOf(api.Int{M: n.C.D}).String()
		}
		out = append(out, s)
	}
	return "Pars " + strconv.Itoa(x.Pars) + " [" + strings.Join(out, "; ") + "]"
}

func shownCall(u, lower, upper int) string {
	return "(u " + strconv.Itoa(u) + ", lower " + strconv.Itoa(lower) + ", upper " + strconv.Itoa(upper) + ")"
}

func shownAnswer(x, j int, e api.Errno) string {
	return strconv.Itoa(x) + ", " + strconv.Itoa(j) + ", error " + strconv.Itoa(int(e))
}

func newMaker(t *testing.T, budget int) *tape.Maker {
	t.Helper()
	m, e := tape.New(budget)
	if m == nil || e != api.OK {
		t.Fatalf("New(%d) = %v, %d", budget, m, e)
	}
	return m
}

// madeBy is the tape of all that a maker has, nothing if that is nothing.
func madeBy(m *tape.Maker) api.Tape {
	x, _ := m.Tape(0, nil)
	return x
}

// must is a step that has to be there.
func must(i int, e api.Errno) int {
	if e != api.OK {
		panic("error " + strconv.Itoa(int(e)))
	}
	return i
}

// putIs checks one call of Put.
func putIs(t *testing.T, what string, m *tape.Maker, u, lower, upper, x, j int, e api.Errno) {
	t.Helper()
	if gotX, gotJ, got := chart.Put(m, u, lower, upper); gotX != x || gotJ != j || got != e {
		t.Errorf("%s: Put %s of %s = %s, want %s", what, shownCall(u, lower, upper), shownTape(madeBy(m)), shownAnswer(gotX, gotJ, got), shownAnswer(x, j, e))
	}
}

// isMade checks what a maker has made.
func isMade(t *testing.T, what string, m *tape.Maker, pars int, nodes ...api.Node) {
	t.Helper()
	if got, want := madeBy(m), (api.Tape{Pars: pars, Nodes: nodes}); m.Len() != len(nodes) || !tape.Same(got, want) {
		t.Errorf("%s: made is %s, want %s", what, shownTape(got), shownTape(want))
	}
}

func oneOf[T any](g *rand.Rand, l ...T) T { return l[g.IntN(len(l))] }

// farIntegers are beyond any row of steps.
func farIntegers() []int {
	return []int{math.MinInt, math.MinInt + 1, -1 << 32, -1 << 31, 1 << 31, 1 << 32, math.MaxInt - 1, math.MaxInt}
}
