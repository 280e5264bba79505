package bind_test

import (
	"encoding/binary"
	"math/big"
	"math/rand/v2"
	"slices"
	"strconv"
	"strings"
	"testing"

	"stepstone/api"
	"stepstone/bind"
	"stepstone/feed"
	"stepstone/parse"
	"stepstone/tree"
)

// The chapters' limits.
const (
	mostInt     = 1 << 31
	mostSize    = 1000
	mostNumeral = 400
	maxBits     = 64 * 2048
)

// words are the types' names in the tests.
var words = [...]string{api.TyInt: "int", api.TyReal: "real", api.TyVec: "vector", api.TyInts: "ints", api.TyReals: "reals"}

func types() []uint8 {
	return []uint8{api.TyInt, api.TyReal, api.TyVec, api.TyInts, api.TyReals}
}

func isWhole(t uint8) bool { return t == api.TyInt || t == api.TyInts }

func isRow(t uint8) bool { return t > api.TyReal }

// inexact are the functions that data can't compute.
func inexact() []string { return []string{"exp", "log", "sqrt", "inv_logit"} }

func bigOfNat(m api.Nat) *big.Int {
	bytes := make([]byte, 0, 8*len(m))
	for _, x := range slices.Backward(m) {
		bytes = binary.BigEndian.AppendUint64(bytes, x)
	}
	return new(big.Int).SetBytes(bytes)
}

func bigOf(a api.Int) *big.Int {
	n := bigOfNat(a.M)
	if a.Neg {
		n.Neg(n)
	}
	return n
}

func natOf(n *big.Int) api.Nat {
	m := make(api.Nat, (n.BitLen()+63)/64)
	bytes := n.FillBytes(make([]byte, 8*len(m)))
	for i := range m {
		m[len(m)-1-i] = binary.BigEndian.Uint64(bytes[8*i:])
	}
	return m
}

// fracOf is the number as it is written, not as it is normal.
func fracOf(n, d *big.Int) api.Frac {
	return api.Frac{N: api.Int{Neg: n.Sign() < 0, M: natOf(n)}, D: natOf(d)}
}

func ratio(n, d int64) api.Frac { return fracOf(big.NewInt(n), big.NewInt(d)) }

func normal(x *big.Rat) api.Frac { return fracOf(x.Num(), x.Denom()) }

func pow2(n int) *big.Int { return new(big.Int).Lsh(big.NewInt(1), uint(n)) }

func plus(n *big.Int, m int64) *big.Int { return new(big.Int).Add(n, big.NewInt(m)) }

// allOnes is 2^n - 1.
func allOnes(n int) *big.Int { return plus(pow2(n), -1) }

func isLean(m api.Nat) bool { return len(m) == 0 || m[len(m)-1] != 0 }

func isNormal(x api.Frac) bool {
	n, d := bigOf(x.N), bigOfNat(x.D)
	common := new(big.Int).GCD(nil, nil, new(big.Int).Abs(n), d)
	return common.Cmp(big.NewInt(1)) == 0 && isLean(x.N.M) && isLean(x.D) && !(n.Sign() == 0 && x.N.Neg)
}

// cut is a text as far as a message has room for it.
func cut(s string) string {
	if len(s) > 600 {
		return s[:300] + " .. " + s[len(s)-300:] + " of " + strconv.Itoa(len(s)) + " bytes"
	}
	return s
}

func toldNum(x api.Frac) string {
	n, d := bigOf(x.N), bigOfNat(x.D)
	out := n.Text(10)
	if n.BitLen() > 4000 {
		out = "0x" + n.Text(16)
	}
	if d.Cmp(big.NewInt(1)) != 0 {
		if d.BitLen() > 4000 {
			out += "/0x" + d.Text(16)
		} else {
			out += "/" + d.String()
		}
	}
	if !isNormal(x) {
		out += "?"
	}
	return out
}

// told is a value as a text: its name, if it has one, its type, what it has. A number that is not normal has a ?.
func told(v api.Value) string {
	var out []string
	if v.Name != "" {
		out = append(out, v.Name)
	}
	if int(v.Type) < len(words) {
		out = append(out, words[v.Type])
	} else {
		out = append(out, "type"+strconv.Itoa(int(v.Type)))
	}
	for _, n := range v.Ints {
		out = append(out, strconv.FormatInt(n, 10))
	}
	if len(v.Nums) > 0 && isWhole(v.Type) || len(v.Ints) > 0 && !isWhole(v.Type) {
		out = append(out, "but")
	}
	for _, x := range v.Nums {
		out = append(out, toldNum(x))
	}
	return strings.Join(out, " ")
}

func toldAll(l []api.Value) string {
	var out []string
	for _, v := range l {
		out = append(out, told(v))
	}
	return strings.Join(out, "; ")
}

// value is one of a type, of numbers as texts.
func value(name, word string, nums ...string) api.Value {
	v := api.Value{Name: name, Type: uint8(slices.Index(words[:], word))}
	for _, s := range nums {
		x, is := new(big.Rat).SetString(s)
		if !is {
			panic(s)
		}
		if isWhole(v.Type) {
			v.Ints = append(v.Ints, x.Num().Int64())
		} else {
			v.Nums = append(v.Nums, normal(x))
		}
	}
	return v
}

// given are values by a text as it is told: n int 2; y vector 1 1/2.
func given(s string) []api.Value {
	var out []api.Value
	for x := range strings.SplitSeq(s, ";") {
		if l := strings.Fields(x); len(l) > 1 {
			out = append(out, value(l[0], l[1], l[2:]...))
		}
	}
	return out
}

// some are a variable of each type, and further rows.
func some() []api.Value {
	return given("n int 3; r real -5/2; v vector 1 1/2 -3; k ints 2 -1 5; y reals 0 7/3 -1; w vector 0 1 4; u vector 9; none vector; nones ints; zero int 0; most int 2147483648; least int -2147483648; o real 0; empty reals")
}

func shownFault(f api.Fault) string {
	return "error " + strconv.Itoa(int(f.E)) + " at " + strconv.Itoa(f.At)
}

func shownExpr(e api.Expr) string {
	s, _ := tree.WriteExpr(e)
	return cut(s)
}

func shownTree(p api.Prog) string {
	s, _ := tree.Write(p)
	return cut(s)
}

func shownData(l []api.Datum) string {
	var out []string
	for _, d := range l {
		var nums []string
		for _, x := range d.Nums {
			nums = append(nums, toldNum(x))
		}
		s := strings.Join(nums, ", ")
		if d.List {
			s = "[" + s + "]"
		}
		if d.Whole {
			s += " whole"
		}
		out = append(out, d.Name+" = "+s)
	}
	return cut(strings.Join(out, "; "))
}

// marked is a source in which a ^ tells a place, and that place.
func marked(t *testing.T, s string) (string, int) {
	t.Helper()
	before, behind, is := strings.Cut(s, "^")
	if !is || strings.Contains(behind, "^") {
		t.Fatalf("%s does not have one mark", cut(s))
	}
	return before + behind, len(before)
}

func parsed(t *testing.T, s string) api.Prog {
	t.Helper()
	p, f := parse.Parse(s)
	if f != (api.Fault{}) {
		t.Fatalf("%s is not read: %s", cut(s), shownFault(f))
	}
	return p
}

func parsedExpr(t *testing.T, s string) api.Expr {
	t.Helper()
	e, f := parse.Expr(s)
	if f != (api.Fault{}) {
		t.Fatalf("%s is not read: %s", cut(s), shownFault(f))
	}
	return e
}

func items(t *testing.T, s string) []api.Datum {
	t.Helper()
	l, f := feed.Read(s)
	if f != (api.Fault{}) {
		t.Fatalf("%s is not read: %s", cut(s), shownFault(f))
	}
	return l
}

// isNone tells whether a value is the zero one.
func isNone(v api.Value) bool {
	return v.Name == "" && v.Type == 0 && v.Ints == nil && v.Nums == nil
}

// comes checks the value of an expression.
func comes(t *testing.T, l []api.Value, s, want string) {
	t.Helper()
	e := parsedExpr(t, s)
	checkExpr(t, e, l)
	if v, f := bind.Come(e, l); told(v) != want || f != (api.Fault{}) {
		t.Errorf("Come(%s) = %s, %s, want %s", cut(s), cut(told(v)), shownFault(f), want)
	}
}

// refuses checks that expressions have an error where a ^ is in them.
func refuses(t *testing.T, want api.Errno, l []api.Value, sources ...string) {
	t.Helper()
	for _, s := range sources {
		s, at := marked(t, s)
		e := parsedExpr(t, s)
		checkExpr(t, e, l)
		if v, f := bind.Come(e, l); !isNone(v) || f != (api.Fault{E: want, At: at}) {
			t.Errorf("Come(%s) = %s, %s, want error %d at %d", cut(s), cut(told(v)), shownFault(f), want, at)
		}
	}
}

// binds checks what a program's variables are bound to.
func binds(t *testing.T, source, data, want string) {
	t.Helper()
	bindsItems(t, source, items(t, data), want)
}

func bindsItems(t *testing.T, source string, data []api.Datum, want string) {
	t.Helper()
	p := parsed(t, source)
	check(t, p, data)
	if l, f := bind.Bind(p, data); toldAll(l) != want || f != (api.Fault{}) {
		t.Errorf("Bind(%s, %s) = %s, %s, want %s", cut(source), shownData(data), cut(toldAll(l)), shownFault(f), cut(want))
	}
}

// fails checks that a program with data has an error where a ^ is in it.
func fails(t *testing.T, want api.Errno, source, data string) {
	t.Helper()
	failsItems(t, want, source, items(t, data))
}

func failsItems(t *testing.T, want api.Errno, source string, data []api.Datum) {
	t.Helper()
	source, at := marked(t, source)
	p := parsed(t, source)
	check(t, p, data)
	if l, f := bind.Bind(p, data); l != nil || f != (api.Fault{E: want, At: at}) {
		t.Errorf("Bind(%s, %s) = %s, %s, want error %d at %d", cut(source), shownData(data), cut(toldAll(l)), shownFault(f), want, at)
	}
}

// Trees and items that are made, not read.

func name(s string) api.Expr { return api.Expr{Op: api.ExName, Name: s} }

func num(s string) api.Expr { return api.Expr{Op: api.ExNum, Name: s} }

func ex(op uint8, name string, kids ...api.Expr) api.Expr {
	return api.Expr{Op: op, Name: name, Kids: kids}
}

func one(name string, x api.Frac) api.Datum {
	return api.Datum{Name: name, Whole: true, Nums: []api.Frac{x}}
}

func list(name string, l ...api.Frac) api.Datum {
	return api.Datum{Name: name, List: true, Whole: true, Nums: l}
}

func oneOf[T any](g *rand.Rand, l ...T) T { return l[g.IntN(len(l))] }

// placer gives each part of an expression a place of its own.
type placer struct{ at int }

func (p *placer) expr(e api.Expr) api.Expr {
	p.at += 3
	e.At = p.at
	e.Kids = slices.Clone(e.Kids)
	for i, k := range e.Kids {
		e.Kids[i] = p.expr(k)
	}
	return e
}

// placed begins below 0, so that some places are that, too.
func placed(e api.Expr) api.Expr {
	p := placer{-10}
	return p.expr(e)
}
