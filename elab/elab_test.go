package elab_test

import (
	"math/big"
	"math/rand/v2"
	"strings"
	"testing"

	"stepstone/api"
	"stepstone/bind"
	"stepstone/elab"
	"stepstone/feed"
	"stepstone/fore"
	"stepstone/kind"
	"stepstone/parse"
	"stepstone/tape"
)

// valueAt is what is known of a tape's Out at a point of integers over 2^bits.
func valueAt(t *testing.T, x api.Tape, bits int, q ...int64) api.Ivl {
	t.Helper()
	v, e := fore.At(x, point(bits, q...), 3)
	if e != api.OK {
		t.Fatalf("At of %s: error %d", shownTape(x), e)
	}
	return v
}

// P22.1, P22.2: the chapter's examples.
func TestExamples(t *testing.T) {
	for _, c := range []struct {
		src, data string
		q         int64
		want      int64
		tells     string
	}{
		{"parameters { real x; } model { target += -x * x; }", "", 3, -9, "x"},
		{"parameters { real<lower=0> s; } model { s ~ exponential(1); }", "", 0, -1, "s"},
		{"data { vector[2] y; } parameters { real m; } model { y ~ normal(m, 1); }", "y = [1, 3];", 2, -1, "m"},
	} {
		x := made(t, c.src, c.data)
		v, want := valueAt(t, x, 0, c.q), new(big.Rat).SetInt64(c.want)
		if v.Kind != api.IvSome || ratOf(v.Lo).Cmp(want) != 0 || ratOf(v.Hi).Cmp(want) != 0 {
			t.Errorf("%s: at %d it is %v, want %d", c.src, c.q, v, c.want)
		}
		if x.Pars != 1 || len(x.Tells) != 1 || x.Tells[0].Name != c.tells {
			t.Errorf("%s: %s", c.src, shownTape(x))
		}
	}
	fails(t, api.ErrUnset, "transformed data { real z; real w = ^z; }", "")
	_, f, inData := elab.Compile("transformed data { real z; real w = z; }", "", 100)
	if f != (api.Fault{E: 220, At: 36}) || inData {
		t.Errorf("%s", shownFault(f))
	}
	makes(t, "parameters { real x; } model { target += -x * x; }", "", "z = num 0; x = par; t = add z z; a = neg x; b = mul a x; t = add t b; out t; tell x x")
}

// P22.2: the source's fault, then the data's, then Build's.
func TestCompileOrder(t *testing.T) {
	const good, other = "data { int n; } model { target += n; }", "data { int n; int m; } model { }"
	for _, c := range []struct {
		src, data string
		want      api.Fault
		inData    bool
	}{
		{good, "n = 3;", api.Fault{}, false},
		{good, " n = 3; m = 4;", api.Fault{}, false},
		{"model { target = 1; }", "n = ", api.Fault{E: api.ErrSyntax, At: 15}, false},
		{"model { $ }", "n = ", api.Fault{E: api.ErrLex, At: 8}, false},
		{"model { } model { }", "$", api.Fault{E: api.ErrSyntax, At: 10}, false},
		{strings.Repeat(" ", 20001), "$", api.Fault{E: api.ErrLong}, false},
		{"model { target += " + strings.Repeat("(", 65) + "1" + strings.Repeat(")", 65) + "; }", "$", api.Fault{E: api.ErrDepth, At: 17 + 64}, false},
		{"model { target += x; }", "n = ", api.Fault{E: api.ErrSyntax, At: 4}, true},
		{good, "", api.Fault{E: api.ErrData, At: 7}, false},
		{good, "n = 3", api.Fault{E: api.ErrSyntax, At: 5}, true},
		{good, "n = 3; $", api.Fault{E: api.ErrLex, At: 7}, true},
		{good, "n = 3; n = 4;", api.Fault{E: api.ErrThere, At: 7}, true},
		{good, "n = 3;" + strings.Repeat(" ", 20000), api.Fault{E: api.ErrLong}, true},
		{good, "n = " + strings.Repeat("1", 401) + ";", api.Fault{E: api.ErrLong, At: 4}, true},
		{"model { target += x; }", "", api.Fault{E: api.ErrName, At: 18}, false},
		{"data { int n; int n; }", "n = 1;", api.Fault{E: api.ErrDouble, At: 14}, false},
		{"parameters { int n; }", "", api.Fault{E: api.ErrType, At: 13}, false},
		{"parameters { real x; vector[2] y; } model { for (i in 1 : x) { } }", "", api.Fault{E: api.ErrType, At: 58}, false},
		{other, "n = 3; m = 1.5;", api.Fault{E: api.ErrData, At: 14}, false},
		{other, "m = 3;", api.Fault{E: api.ErrData, At: 7}, false},
		{"data { int<lower=4> n; }", "n = 3;", api.Fault{E: api.ErrBound, At: 7}, false},
		{"data { real<upper=4 / 0> n; }", "n = 3;", api.Fault{E: api.ErrRange, At: 18}, false},
		{"data { real n; } transformed data { vector[1] v; v[2] = n; }", "n = 3;", api.Fault{E: api.ErrRange, At: 49}, false},
	} {
		x, f, inData := elab.Compile(c.src, c.data, 1000)
		if f != c.want || inData != c.inData || isNone(x) != (c.want.E != api.OK) {
			t.Errorf("Compile(%s; %s): %s, %v, want %s, %v", cut(c.src), cut(c.data), shownFault(f), inData, shownFault(c.want), c.inData)
		}
	}
}

// P22.1: layer 16's faults come before all that is unrolled.
func TestBindFirst(t *testing.T) {
	const faulty = " transformed data { vector[1] v; v[2] = 1; } "
	fails(t, api.ErrName, "data { int n; }"+faulty+"generated quantities { real x = ^y; }", "n = 1;")
	fails(t, api.ErrData, "data { int n; ^int m; }"+faulty, "n = 1;")
	fails(t, api.ErrBound, "data { ^int<upper=0> n; }"+faulty, "n = 1;")
	fails(t, api.ErrType, "data { int n; }"+faulty+"model { target += ^v; }", "")
	// With the least budget, too.
	failsWith(t, 1, api.ErrData, "data { int n; ^int m; } model { target += 1; }", "n = 1;")
	failsWith(t, 1, api.ErrBudget, "data { int n; } model { target += ^1; 2 ~ normal(0, 1); }", "n = 1;")
}

// isSameAsParts checks Compile against the layers' calls.
func isSameAsParts(t *testing.T, src, data string, budget int) {
	t.Helper()
	x, f, inData := elab.Compile(src, data, budget)
	var want api.Tape
	var wantData bool
	p, g := parse.Parse(src)
	l, h := feed.Read(data)
	switch {
	case budget < 1 || budget > mostNodes:
		g = api.Fault{E: api.ErrArg}
	case g.E != api.OK:
	case h.E != api.OK:
		g, wantData = h, true
	default:
		want, g = modelOf(p, l, budget)
	}
	if f != g || inData != wantData || !tape.Same(x, want) || isNone(x) != (f.E != api.OK) {
		t.Errorf("Compile(%q; %q; %d): %s, %v, %s\nwant %s, %v, %s", cut(src), cut(data), budget, shownFault(f), inData, shownTape(x), shownFault(g), wantData, shownTape(want))
	}
}

// P22.2, P1: any bytes, and texts that are nearly programs and data.
func TestAnyTexts(t *testing.T) {
	g := rand.New(rand.NewPCG(22, 5))
	const src = "data { int<lower=1> n; vector[n] y; array[n] int k; } transformed data { real s = sum(y) / n; } parameters { real<lower=0> x; vector[n] v; } model { v ~ normal(x, s); for (i in 1 : n) { if (k[i] > 0) { target += -v[i] * i; } else { k[i] ~ poisson(x); } } } generated quantities { real d = dot(v, y); }"
	const data = "n = 2; y = [1.5, -2]; k = [0, 3];"
	made(t, src, data)
	pieces := append(strings.Fields(src), strings.Fields(data)...)
	for range 4000 {
		a, b := change(g, src, pieces), data
		if g.IntN(2) == 0 {
			a, b = src, change(g, data, pieces)
		}
		isSameAsParts(t, a, b, oneOf(g, mostNodes, mostNodes, g.IntN(100)))
	}
	for range 1000 {
		isSameAsParts(t, anyBytes(g), anyBytes(g), g.IntN(40)-10)
		isSameAsParts(t, "", anyBytes(g), 1+g.IntN(9))
	}
}

// change is a text of which a bit is left out, doubled, or replaced.
func change(g *rand.Rand, s string, pieces []string) string {
	for range 1 + g.IntN(2) {
		i := g.IntN(len(s))
		j := min(len(s), i+g.IntN(12))
		s = s[:i] + oneOf(g, "", s[i:j]+s[i:j], oneOf(g, pieces...), " "+oneOf(g, pieces...)+" ", string(rune(g.IntN(256))), oneOf(g, "0", "1", "2", "n", "x", "v", "-", "+")) + s[j:]
	}
	return s
}

func anyBytes(g *rand.Rand) string {
	l := make([]byte, g.IntN(30))
	for i := range l {
		l[i] = byte(g.IntN(256))
		if g.IntN(2) == 0 {
			l[i] = "model{}=+;data 1x"[g.IntN(17)]
		}
	}
	return string(l)
}

// anyTree is a tree that no source need read as.
func anyTree(g *rand.Rand) api.Prog {
	var p api.Prog
	for i := range p.Blocks {
		b := &p.Blocks[i]
		b.Is = g.IntN(4) > 0
		for range g.IntN(3) {
			b.Decls = append(b.Decls, api.Decl{Type: uint8(g.IntN(7)), At: g.IntN(99) - 9, Name: oneOf(g, "x", "y", "n", "", "1", "for"), Size: anyExprs(g, 1, 1), Lower: anyExprs(g, 1, 1), Upper: anyExprs(g, 1, 1), Init: anyExprs(g, 1, 1)})
		}
		b.Stmts = anyStmts(g, 2)
	}
	return p
}

func anyStmts(g *rand.Rand, depth int) []api.Stmt {
	var out []api.Stmt
	for range g.IntN(3) {
		s := api.Stmt{Op: uint8(g.IntN(8)), At: g.IntN(99) - 9, Name: oneOf(g, "x", "y", "n", "normal", "", "2"), Kids: anyExprs(g, 3, 1)}
		if depth > 0 && g.IntN(2) == 0 {
			s.Body, s.Else = anyStmts(g, depth-1), anyStmts(g, depth-1)
		}
		out = append(out, s)
	}
	return out
}

func anyExprs(g *rand.Rand, most, depth int) []api.Expr {
	var out []api.Expr
	for range g.IntN(most + 1) {
		e := api.Expr{Op: uint8(g.IntN(17)), At: g.IntN(99) - 9, Name: oneOf(g, "x", "y", "n", "exp", "size", "", "2", "0.5")}
		if depth > 0 {
			e.Kids = anyExprs(g, 2, depth-1)
		}
		out = append(out, e)
	}
	return out
}

// P22.1: trees that no source reads as, and data that no text reads as.
func TestAnyTrees(t *testing.T) {
	g := rand.New(rand.NewPCG(22, 6))
	for range 20000 {
		p, data := anyTree(g), anyData(g, "x", "y", "n")
		isModel(t, p, data, 1+g.IntN(100))
	}
	for range 3000 {
		m := newMaker(g, 0)
		p, data := m.prog()
		broken := placed(g, p)
		breakTree(g, &broken)
		isModel(t, broken, data, mostNodes)
		isModel(t, p, breakData(g, data), mostNodes)
	}
}

// anyData has items that are valid or not, twice, or of none.
func anyData(g *rand.Rand, names ...string) []api.Datum {
	var out []api.Datum
	for range g.IntN(4) {
		d := api.Datum{Name: oneOf(g, names...), At: g.IntN(99) - 9, List: g.IntN(2) == 0, Whole: g.IntN(2) == 0}
		for range g.IntN(3) {
			d.Nums = append(d.Nums, oneOf(g, api.Frac{}, ratio(3, 1), ratio(1, 2), api.Frac{N: api.Int{M: api.Nat{4, 0}}, D: api.Nat{2}}, api.Frac{N: api.Int{M: api.Nat{1}}, D: api.Nat{0}}))
		}
		out = append(out, d)
	}
	return out
}

func breakData(g *rand.Rand, l []api.Datum) []api.Datum {
	l = append([]api.Datum{}, l...)
	names := []string{"q"}
	for _, d := range l {
		names = append(names, d.Name)
	}
	l = append(l, anyData(g, names...)...)
	g.Shuffle(len(l), func(i, j int) { l[i], l[j] = l[j], l[i] })
	return l
}

// breakTree changes one part of a program.
func breakTree(g *rand.Rand, p *api.Prog) {
	b := &p.Blocks[g.IntN(6)]
	switch g.IntN(4) {
	case 0:
		b.Is = !b.Is
	case 1:
		b.Stmts = append(anyStmts(g, 1), b.Stmts...)
	case 2:
		if len(b.Decls) > 0 {
			d := &b.Decls[g.IntN(len(b.Decls))]
			d.Type, d.Name = uint8(g.IntN(7)), oneOf(g, d.Name, "x1", "x2", "x3")
		}
	default:
		if len(b.Stmts) > 0 {
			s := &b.Stmts[g.IntN(len(b.Stmts))]
			s.Op, s.Kids = uint8(g.IntN(8)), append(s.Kids, anyExprs(g, 1, 0)...)
		}
	}
}

// P22.1: a tree that is not valid has its fault at 0, whatever else is wrong; data that do not belong to the program are layer 16's.
func TestWrongTrees(t *testing.T) {
	for _, s := range []api.Stmt{{}, {Op: api.StAdd}, {Op: 9}, {Op: api.StSet, Name: "for", Kids: []api.Expr{num("1")}}, {Op: api.StAdd, Kids: []api.Expr{num("x")}}, {Op: api.StAdd, Kids: []api.Expr{{Op: api.ExCall}}}} {
		p := parsed(t, "data { int n; } model { target += y; }")
		p.Blocks[api.BkModel].Stmts = append(p.Blocks[api.BkModel].Stmts, s)
		if f := kind.Check(p); f != (api.Fault{E: api.ErrTree}) {
			t.Errorf("%v is valid: %s", s, shownFault(f))
		}
		if x, f := elab.Build(p, nil, 100); f != (api.Fault{E: api.ErrTree}) || !isNone(x) {
			t.Errorf("%v: %s", s, shownFault(f))
		}
	}
	p := parsed(t, "data { vector[2] y; } model { target += y[1]; }")
	for _, l := range [][]api.Datum{nil, {}, {{Name: "y"}}, {{Name: "y", List: true}}, {{Name: "y", List: true, Nums: []api.Frac{{}, {}}}}, {{Name: "y", List: true, Nums: []api.Frac{ratio(1, 1)}}}, {{Name: "z", List: true, Nums: []api.Frac{ratio(1, 1), ratio(1, 1)}}}} {
		if x, f := elab.Build(p, l, 100); f != (api.Fault{E: api.ErrData, At: 7}) || !isNone(x) {
			t.Errorf("%v: %s", l, shownFault(f))
		}
	}
	// Of several items with one name the first one counts; numbers need not be normal.
	six := api.Frac{N: api.Int{Neg: true, M: api.Nat{12, 0}}, D: api.Nat{2, 0}}
	l := []api.Datum{{Name: "a"}, {Name: "y", List: true, Nums: []api.Frac{six, six}}, {Name: "y"}}
	x, f := elab.Build(p, l, 100)
	if want := tapeOf(t, "z = num 0; a = num -6; t = add z a; out t"); f != (api.Fault{}) || !tape.Same(x, want) {
		t.Errorf("%s, %s", shownFault(f), shownTape(x))
	}
	if v, f := bind.Bind(p, l); f != (api.Fault{}) || len(v) != 1 {
		t.Errorf("%v, %s", v, shownFault(f))
	}
}
