package tape_test

import (
	"encoding/binary"
	"fmt"
	"math"
	"math/big"
	"math/rand/v2"
	"reflect"
	"slices"
	"strconv"
	"testing"

	"stepstone/api"
	"stepstone/tape"
)

// The chapters' limits.
const (
	mostNodes = 20000
	mostPars  = 200
	mostLimbs = 2048
)

func opsOfTwo() []uint8 { return []uint8{api.NdAdd, api.NdSub, api.NdMul, api.NdDiv} }

func opsOfOne() []uint8 { return []uint8{api.NdNeg, api.NdExp, api.NdLog, api.NdRoot, api.NdNeed} }

func ops() []uint8 {
	return slices.Concat([]uint8{api.NdNum, api.NdPar}, opsOfTwo(), opsOfOne())
}

// noOps are numbers that are no Op.
func noOps() []uint8 { return []uint8{0, 12, 13, 14, 127, 128, 255} }

func bigOfNat(m api.Nat) *big.Int {
	bytes := make([]byte, 0, 8*len(m))
	for _, x := range slices.Backward(m) {
		bytes = binary.BigEndian.AppendUint64(bytes, x)
	}
	return new(big.Int).SetBytes(bytes)
}

func bigOf(a api.Int) *big.Int {
	n := bigOfNat(a.M)
	if a.Neg {
		n.Neg(n)
	}
	return n
}

func natOf(n *big.Int) api.Nat {
	m := make(api.Nat, (n.BitLen()+63)/64)
	bytes := n.FillBytes(make([]byte, 8*len(m)))
	for i := range m {
		m[len(m)-1-i] = binary.BigEndian.Uint64(bytes[8*i:])
	}
	return m
}

// fracOf is the number as it is written, not as it is normal.
func fracOf(n, d *big.Int) api.Frac {
	return api.Frac{N: api.Int{Neg: n.Sign() < 0, M: natOf(n)}, D: natOf(d)}
}

func ratio(n, d int64) api.Frac { return fracOf(big.NewInt(n), big.NewInt(d)) }

func normal(x *big.Rat) api.Frac { return fracOf(x.Num(), x.Denom()) }

func valueOf(c api.Frac) *big.Rat { return new(big.Rat).SetFrac(bigOf(c.N), bigOfNat(c.D)) }

func pow2(n int) *big.Int { return new(big.Int).Lsh(big.NewInt(1), uint(n)) }

// allOnes is 2^n - 1.
func allOnes(n int) *big.Int { return new(big.Int).Sub(pow2(n), big.NewInt(1)) }

func isLean(m api.Nat) bool { return len(m) == 0 || m[len(m)-1] != 0 }

// isNumber tells whether a number is valid.
func isNumber(c api.Frac) bool {
	n := bigOfNat(c.D).BitLen()
	return 0 < n && n <= 64*mostLimbs && bigOfNat(c.N.M).BitLen() <= 64*mostLimbs
}

func isNormal(c api.Frac) bool {
	if !isNumber(c) {
		return false
	}
	n, d := bigOf(c.N), bigOfNat(c.D)
	common := new(big.Int).GCD(nil, nil, new(big.Int).Abs(n), d)
	return common.Cmp(big.NewInt(1)) == 0 && isLean(c.N.M) && isLean(c.D) && !(n.Sign() == 0 && c.N.Neg)
}

// normals are numbers as they are when normal, at the limits, too.
func normals() []api.Frac {
	return []api.Frac{
		ratio(0, 1), ratio(1, 1), ratio(-1, 1), ratio(1, 2), ratio(-3, 7), ratio(1<<62, 3), ratio(5, 1<<62),
		{D: api.Nat{1}}, {N: api.Int{M: api.Nat{}}, D: api.Nat{1}},
		{N: api.Int{M: api.Nat{0, 1}}, D: api.Nat{1}}, {N: api.Int{Neg: true, M: api.Nat{1}}, D: api.Nat{0, 0, 1}},
		fracOf(allOnes(64*mostLimbs), big.NewInt(1)), fracOf(big.NewInt(-1), allOnes(64*mostLimbs)),
	}
}

// otherwise are valid numbers that are not normal.
func otherwise() []api.Frac {
	return []api.Frac{
		ratio(2, 4), ratio(-3, 3), ratio(0, 2), ratio(6, 3),
		{N: api.Int{Neg: true}, D: api.Nat{1}},
		{N: api.Int{M: api.Nat{0}}, D: api.Nat{1}},
		{N: api.Int{M: api.Nat{1, 0}}, D: api.Nat{1}},
		{N: api.Int{Neg: true, M: api.Nat{1, 0, 0}}, D: api.Nat{2}},
		{N: api.Int{M: api.Nat{1}}, D: api.Nat{1, 0}},
		{N: api.Int{M: api.Nat{0, 1}}, D: api.Nat{0, 1}},
		{N: api.Int{M: append(natOf(allOnes(64*mostLimbs)), 0, 0)}, D: api.Nat{1}},
		fracOf(pow2(64*mostLimbs-1), big.NewInt(2)),
	}
}

// noNumbers are not valid: without a divisor, with one of 0, too long.
func noNumbers() []api.Frac {
	return []api.Frac{
		{},
		{D: api.Nat{}},
		{D: api.Nat{0}},
		{N: api.Int{M: api.Nat{1}}},
		{N: api.Int{M: api.Nat{1}}, D: api.Nat{0, 0}},
		{N: api.Int{Neg: true, M: api.Nat{1}}, D: api.Nat{}},
		fracOf(pow2(64*mostLimbs), big.NewInt(1)),
		fracOf(big.NewInt(1), pow2(64*mostLimbs)),
		fracOf(big.NewInt(0), pow2(64*mostLimbs)),
	}
}

func num(n, d int64) api.Node { return numOf(ratio(n, d)) }

func numOf(c api.Frac) api.Node { return api.Node{Op: api.NdNum, C: c} }

func par(i int) api.Node { return api.Node{Op: api.NdPar, A: i} }

func one(op uint8, a int) api.Node { return api.Node{Op: op, A: a} }

func two(op uint8, a, b int) api.Node { return api.Node{Op: op, A: a, B: b} }

func tell(name string, at int) api.Tell { return api.Tell{Name: name, At: at} }

// tapeOf is one whose Out is its last node.
func tapeOf(pars int, nodes ...api.Node) api.Tape {
	return api.Tape{Pars: pars, Out: len(nodes) - 1, Nodes: nodes}
}

// ordinary has each Op, one step of each twice used, some not live, and several that are told.
func ordinary() api.Tape {
	return api.Tape{
		Pars: 3,
		Out:  14,
		Nodes: []api.Node{
			par(0), num(-3, 2), par(1), num(7, 1),
			two(api.NdAdd, 0, 1), two(api.NdSub, 4, 2), two(api.NdMul, 5, 5), two(api.NdDiv, 6, 3),
			one(api.NdNeg, 7), one(api.NdExp, 8), one(api.NdLog, 9), one(api.NdRoot, 3), one(api.NdNeed, 11),
			two(api.NdMul, 10, 11), two(api.NdAdd, 13, 12), two(api.NdSub, 14, 14), num(0, 1),
		},
		Tells: []api.Tell{tell("x", 0), tell("y[1]", 16), tell("", 14)},
	}
}

// chain is so many steps, each the exponential of the one before.
func chain(n int) []api.Node {
	l := []api.Node{num(0, 1)}
	for i := range n - 1 {
		l = append(l, one(api.NdExp, i))
	}
	return l
}

// farIndices are beyond any list.
func farIndices() []int { return []int{math.MinInt, -1 << 32, 1 << 31, 1 << 32, math.MaxInt} }

// filled is a thing, in new memory, in which no list is nil.
func filled[T any](x T) T {
	return filledOf(reflect.ValueOf(&x).Elem()).Interface().(T)
}

func filledOf(v reflect.Value) reflect.Value {
	out := reflect.New(v.Type()).Elem()
	switch v.Kind() {
	case reflect.Struct:
		for i := range v.NumField() {
			out.Field(i).Set(filledOf(v.Field(i)))
		}
	case reflect.Slice:
		out.Set(reflect.MakeSlice(v.Type(), v.Len(), v.Len()))
		for i := range v.Len() {
			out.Index(i).Set(filledOf(v.Index(i)))
		}
	default:
		out.Set(v)
	}
	return out
}

// isSame is equality in everything, but that nil lists are empty, in another way.
func isSame[T any](a, b T) bool { return reflect.DeepEqual(filled(a), filled(b)) }

// told is a thing as a text, as far as a message has room for it.
func told(x any) string {
	s := fmt.Sprintf("%+v", x)
	if len(s) > 1500 {
		return s[:800] + " .. " + s[len(s)-600:] + " of " + strconv.Itoa(len(s)) + " bytes"
	}
	return s
}

func isNoTape(t api.Tape) bool {
	return t.Pars == 0 && t.Out == 0 && t.Nodes == nil && t.Tells == nil
}

func newMaker(t *testing.T, budget int) *tape.Maker {
	t.Helper()
	m, e := tape.New(budget)
	if m == nil || e != api.OK {
		t.Fatalf("New(%d) = %v, %d", budget, m, e)
	}
	return m
}

// is checks an index, or an error beside 0.
func is(t *testing.T, what string, got int, e api.Errno, want int, f api.Errno) {
	t.Helper()
	if got != want || e != f {
		t.Errorf("%s = %d, %d, want %d, %d", what, got, e, want, f)
	}
}

// isMade checks what a maker has made.
func isMade(t *testing.T, m *tape.Maker, want api.Tape) {
	t.Helper()
	got, e := m.Tape(want.Out, want.Tells)
	if e != api.OK || !isSame(got, want) || m.Len() != len(want.Nodes) {
		t.Errorf("a maker of %d steps made %s, %d, want %s", m.Len(), told(got), e, told(want))
	}
	check(t, got)
}

func oneOf[T any](g *rand.Rand, l ...T) T { return l[g.IntN(len(l))] }

// anyNode is valid behind so many steps.
func anyNode(g *rand.Rand, steps, pars int) api.Node {
	switch k := g.IntN(8); {
	case k == 0 && pars > 0:
		return par(g.IntN(pars))
	case k < 2 || steps == 0:
		return num(g.Int64N(7)-2, 1)
	case k < 5:
		return two(oneOf(g, opsOfTwo()...), g.IntN(steps), g.IntN(steps))
	default:
		return one(oneOf(g, opsOfOne()...), g.IntN(steps))
	}
}

// anyTape is valid.
func anyTape(g *rand.Rand, most int) api.Tape {
	t := api.Tape{Pars: g.IntN(4)}
	for i := range 1 + g.IntN(most) {
		t.Nodes = append(t.Nodes, anyNode(g, i, t.Pars))
	}
	t.Out = g.IntN(len(t.Nodes))
	for range g.IntN(4) {
		t.Tells = append(t.Tells, tell(oneOf(g, "", "a", "b[1]", "a\x00\xff"), g.IntN(len(t.Nodes))))
	}
	return t
}
