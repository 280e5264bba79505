package elab_test

import (
	"encoding/binary"
	"math/big"
	"math/rand/v2"
	"slices"
	"strconv"
	"strings"
	"testing"

	"stepstone/api"
	"stepstone/chart"
	"stepstone/dist"
	"stepstone/elab"
	"stepstone/feed"
	"stepstone/parse"
	"stepstone/tape"
	"stepstone/tree"
)

// The chapters' limits.
const (
	mostInt   = 1 << 31
	mostSize  = 1000
	mostNodes = 20000
	mostPars  = 200
	mostRuns  = 100000
)

func natOf(n *big.Int) api.Nat {
	m := make(api.Nat, (n.BitLen()+63)/64)
	bytes := n.FillBytes(make([]byte, 8*len(m)))
	for i := range m {
		m[len(m)-1-i] = binary.BigEndian.Uint64(bytes[8*i:])
	}
	return m
}

func bigOf(a api.Int) *big.Int {
	var bytes []byte
	for _, limb := range slices.Backward(a.M) {
		bytes = binary.BigEndian.AppendUint64(bytes, limb)
	}
	n := new(big.Int).SetBytes(bytes)
	if a.Neg {
		n.Neg(n)
	}
	return n
}

func fracOf(x *big.Rat) api.Frac {
	return api.Frac{N: api.Int{Neg: x.Sign() < 0, M: natOf(new(big.Int).Abs(x.Num()))}, D: natOf(x.Denom())}
}

func ratio(n, d int64) api.Frac { return fracOf(big.NewRat(n, d)) }

// ratOf is what a dyadic number is worth.
func ratOf(a api.Dyad) *big.Rat {
	two := new(big.Int).Lsh(big.NewInt(1), uint(max(a.E, -a.E)))
	if a.E >= 0 {
		return new(big.Rat).SetInt(two.Mul(two, bigOf(a.M)))
	}
	return new(big.Rat).SetFrac(bigOf(a.M), two)
}

// point is one of integers, each over 2^bits.
func point(bits int, l ...int64) []api.Dyad {
	var out []api.Dyad
	for _, n := range l {
		d, e := big.NewInt(n), 0
		if n != 0 {
			zeros := d.TrailingZeroBits()
			d.Rsh(d, zeros)
			e = int(zeros) - bits
		}
		m := natOf(new(big.Int).Abs(d))
		out = append(out, api.Dyad{M: api.Int{Neg: n < 0, M: m}, E: e})
	}
	return out
}

// cut is a text as far as a message has room for it.
func cut(s string) string {
	if len(s) > 1500 {
		return s[:700] + " .. " + s[len(s)-700:] + " of " + strconv.Itoa(len(s)) + " bytes"
	}
	return s
}

func shownFault(f api.Fault) string {
	return "error " + strconv.Itoa(int(f.E)) + " at " + strconv.Itoa(f.At)
}

// words are the steps' names in the tests.
func words() []string {
	return []string{"?", "num", "par", "add", "sub", "mul", "div", "neg", "exp", "log", "root", "need"}
}

func shownNode(n api.Node) string {
	s := strconv.Itoa(int(n.Op))
	if int(n.Op) < len(words()) {
		s = words()[n.Op]
	}
	if n.Op == api.NdNum {
		return s + " " + bigOf(n.C.N).String() + "/" + bigOf(api.Int{M: n.C.D}).String()
	}
	return s + " " + strconv.Itoa(n.A) + " " + strconv.Itoa(n.B)
}

func shownTape(x api.Tape) string {
	var out []string
	for i, n := range x.Nodes {
		if i == 80 {
			out = append(out, ".. of "+strconv.Itoa(len(x.Nodes)))
			break
		}
		out = append(out, strconv.Itoa(i)+": "+shownNode(n))
	}
	for i, t := range x.Tells {
		if i == 20 {
			out = append(out, ".. of "+strconv.Itoa(len(x.Tells)))
			break
		}
		out = append(out, t.Name+" at "+strconv.Itoa(t.At))
	}
	return strconv.Itoa(x.Pars) + " parameters, Out " + strconv.Itoa(x.Out) + ", " + strings.Join(out, "; ")
}

func shownTree(p api.Prog) string {
	s, e := tree.Write(p)
	if e != api.OK {
		return "a tree that is not valid"
	}
	return cut(strings.ReplaceAll(s, "\n", " "))
}

func shownData(l []api.Datum) string {
	var out []string
	for _, d := range l {
		var nums []string
		for _, x := range d.Nums {
			nums = append(nums, bigOf(x.N).String()+"/"+bigOf(api.Int{M: x.D}).String())
		}
		out = append(out, d.Name+" = "+strings.Join(nums, ", "))
	}
	return cut(strings.Join(out, "; "))
}

func parsed(t *testing.T, s string) api.Prog {
	t.Helper()
	p, f := parse.Parse(s)
	if f != (api.Fault{}) {
		t.Fatalf("%s is not read: %s", cut(s), shownFault(f))
	}
	return p
}

func parsedExpr(t *testing.T, s string) api.Expr {
	t.Helper()
	e, f := parse.Expr(s)
	if f != (api.Fault{}) {
		t.Fatalf("%s is not read: %s", cut(s), shownFault(f))
	}
	return e
}

func items(t *testing.T, s string) []api.Datum {
	t.Helper()
	l, f := feed.Read(s)
	if f != (api.Fault{}) {
		t.Fatalf("%s is not read: %s", cut(s), shownFault(f))
	}
	return l
}

// isNone tells whether a tape is the zero one.
func isNone(x api.Tape) bool {
	return x.Pars == 0 && x.Out == 0 && len(x.Nodes) == 0 && len(x.Tells) == 0
}

// marked is a text in which a ^ tells a place, and that place.
func marked(t *testing.T, s string) (string, int) {
	t.Helper()
	before, behind, is := strings.Cut(s, "^")
	if !is || strings.Contains(behind, "^") {
		t.Fatalf("%s does not have one mark", cut(s))
	}
	return before + behind, len(before)
}

// made is the tape of a source with data, which has to have no fault, and is the same of its tree.
func made(t *testing.T, src, data string) api.Tape {
	t.Helper()
	x, f, inData := elab.Compile(src, data, mostNodes)
	if f != (api.Fault{}) || inData {
		t.Fatalf("Compile(%s; %s): %s, %v", cut(src), cut(data), shownFault(f), inData)
	}
	if y, f := elab.Build(parsed(t, src), items(t, data), mostNodes); f != (api.Fault{}) || !tape.Same(x, y) {
		t.Fatalf("Build(%s; %s): %s, %s, want %s", cut(src), cut(data), shownFault(f), shownTape(y), shownTape(x))
	}
	return x
}

// failsWith checks for a fault in a source, at its ^, with so great a budget.
func failsWith(t *testing.T, budget int, e api.Errno, src, data string) {
	t.Helper()
	s, at := marked(t, src)
	want := api.Fault{E: e, At: at}
	if x, f, inData := elab.Compile(s, data, budget); f != want || inData || !isNone(x) {
		t.Errorf("Compile(%s; %s; %d): %s, %v, %s, want error %d", cut(src), cut(data), budget, shownFault(f), inData, shownTape(x), e)
	}
	if x, f := elab.Build(parsed(t, s), items(t, data), budget); f != want || !isNone(x) {
		t.Errorf("Build(%s; %s; %d): %s, %s, want error %d", cut(src), cut(data), budget, shownFault(f), shownTape(x), e)
	}
}

func fails(t *testing.T, e api.Errno, src, data string) {
	t.Helper()
	failsWith(t, mostNodes, e, src, data)
}

// plain makes a tape by layer 17's calls, one for each line: a name, =, what is to be made of numbers and named steps. Lines may also be out with a step, and tell with a name and a step. As names a step again. Layers 20 and 21 are called by chart, term and count.
type plain struct {
	*tape.Maker
	named map[string]int
	out   int
	tells []api.Tell
}

func newPlain(t *testing.T) *plain {
	t.Helper()
	m, e := tape.New(mostNodes)
	if e != api.OK {
		t.Fatalf("New: error %d", e)
	}
	return &plain{Maker: m, named: map[string]int{"none": -1}}
}

func (p *plain) at(t *testing.T, name string) int {
	t.Helper()
	i, is := p.named[name]
	if !is {
		t.Fatalf("there is no step %s", name)
	}
	return i
}

func (p *plain) line(t *testing.T, s string) {
	t.Helper()
	l := strings.Fields(s)
	switch {
	case len(l) == 0:
		return
	case l[0] == "out":
		p.out = p.at(t, l[1])
		return
	case l[0] == "tell":
		p.tells = append(p.tells, api.Tell{Name: l[1], At: p.at(t, l[2])})
		return
	}
	equal := slices.Index(l, "=")
	names, l := l[:equal], l[equal+1:]
	var args []int
	for _, name := range l[1:] {
		if i, is := p.named[name]; is {
			args = append(args, i)
		}
	}
	i, j, e := p.step(t, l, args)
	if e != api.OK {
		t.Fatalf("%s: error %d", s, e)
	}
	p.named[names[0]] = i
	if len(names) > 1 {
		p.named[names[1]] = j
	}
}

func (p *plain) step(t *testing.T, l []string, args []int) (i, j int, e api.Errno) {
	t.Helper()
	op := uint8(max(0, slices.Index(words(), l[0])))
	switch {
	case l[0] == "num":
		x, is := new(big.Rat).SetString(l[1])
		if !is {
			t.Fatalf("%s is no number", l[1])
		}
		i, e = p.Num(fracOf(x))
	case l[0] == "as":
		i = p.at(t, l[1])
	case l[0] == "par":
		i, e = p.Par()
	case l[0] == "chart":
		i, j, e = chart.Put(p.Maker, args[0], args[1], args[2])
	case l[0] == "term":
		i, e = dist.Term(p.Maker, l[1], args[0], args[1:])
	case l[0] == "count":
		k, err := strconv.ParseInt(l[2], 10, 64)
		if err != nil {
			t.Fatalf("%s is no integer", l[2])
		}
		i, e = dist.Count(p.Maker, l[1], k, args)
	case len(args) != len(l)-1:
		t.Fatalf("%v has a step that is not there", l)
	case len(args) == 1:
		i, e = p.One(op, args[0])
	default:
		i, e = p.Two(op, args[0], args[1])
	}
	return i, j, e
}

// tapeOf is what lines make. Without an out it is the first step.
func tapeOf(t *testing.T, lines string) api.Tape {
	t.Helper()
	p := newPlain(t)
	for s := range strings.SplitSeq(lines, "\n") {
		for s := range strings.SplitSeq(s, ";") {
			p.line(t, s)
		}
	}
	x, e := p.Tape(p.out, p.tells)
	if e != api.OK {
		t.Fatalf("Tape: error %d", e)
	}
	return x
}

// makes checks the tape of a source.
func makes(t *testing.T, src, data, lines string) {
	t.Helper()
	if x, want := made(t, src, data), tapeOf(t, lines); !tape.Same(x, want) {
		t.Errorf("%s; %s\nmakes %s\nwant  %s", cut(src), cut(data), shownTape(x), shownTape(want))
	}
}

// areSame checks that two sources make the same tape.
func areSame(t *testing.T, a, b, data string) {
	t.Helper()
	if x, y := made(t, a, data), made(t, b, data); !tape.Same(x, y) {
		t.Errorf("%s\nmakes %s\n%s\nmakes %s", cut(a), shownTape(x), cut(b), shownTape(y))
	}
}

func oneOf[T any](g *rand.Rand, l ...T) T { return l[g.IntN(len(l))] }
