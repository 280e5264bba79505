package kind_test

import (
	"math/rand/v2"
	"reflect"
	"runtime/debug"
	"slices"
	"strconv"
	"sync"
	"testing"
	"unsafe"

	"stepstone/api"
	"stepstone/kind"
)

// begin is where a text is in memory.
func begin(s string) uintptr { return uintptr(unsafe.Pointer(unsafe.StringData(s))) }

func overlap(a, b string) bool {
	return begin(a) < begin(b)+uintptr(len(b)) && begin(b) < begin(a)+uintptr(len(a))
}

// R5: the variables are new memory, of which no two share any, and their names are not the program's.
func TestVarsAreNew(t *testing.T) {
	p := parsed(t, ordinaryProgram())
	first, second := kind.Vars(p), kind.Vars(p)
	var declared []string
	for _, b := range p.Blocks {
		for _, d := range b.Decls {
			declared = append(declared, d.Name)
		}
	}
	for i, v := range first {
		if overlap(v.Name, declared[i]) || overlap(v.Name, second[i].Name) {
			t.Errorf("%s shares its name's memory", v.Name)
		}
		for _, w := range first[:i] {
			if overlap(v.Name, w.Name) {
				t.Errorf("%s and %s share memory", v.Name, w.Name)
			}
		}
	}
	for _, v := range first[len(first):cap(first)] {
		if v != (api.Var{}) {
			t.Errorf("behind the variables there is %v", v)
		}
	}
	want := slices.Clone(second)
	for i := range first[:cap(first)] {
		first[:cap(first)][i] = api.Var{Name: "spoiled", Type: 77}
	}
	if !slices.Equal(second, want) || !slices.Equal(kind.Vars(p), want) {
		t.Error("what is done to a result is seen in another one")
	}
	_ = append(first, api.Var{Name: "more"})
	if !slices.Equal(kind.Vars(p), want) {
		t.Error("what is put behind a result is seen in another one")
	}
}

// roomy are the same trees in lists that have room for two more, which is filled.

func roomyExprs(l []api.Expr) []api.Expr {
	out := make([]api.Expr, len(l), len(l)+2)
	for i, e := range l {
		e.Kids = roomyExprs(e.Kids)
		out[i] = e
	}
	_ = append(out, api.Expr{Op: 91, Name: "spare", Kids: exprs(name("spare"))}, api.Expr{At: 92})
	return out
}

func roomyStmts(l []api.Stmt) []api.Stmt {
	out := make([]api.Stmt, len(l), len(l)+2)
	for i, s := range l {
		s.Kids, s.Body, s.Else = roomyExprs(s.Kids), roomyStmts(s.Body), roomyStmts(s.Else)
		out[i] = s
	}
	_ = append(out, api.Stmt{Op: 93, Name: "spare"}, api.Stmt{At: 94})
	return out
}

func roomyProg(p api.Prog) api.Prog {
	for i, b := range p.Blocks {
		l := make([]api.Decl, len(b.Decls), len(b.Decls)+2)
		for j, d := range b.Decls {
			d.Size, d.Lower, d.Upper, d.Init = roomyExprs(d.Size), roomyExprs(d.Lower), roomyExprs(d.Upper), roomyExprs(d.Init)
			l[j] = d
		}
		_ = append(l, api.Decl{Type: 95, Name: "spare"}, api.Decl{At: 96})
		p.Blocks[i].Decls, p.Blocks[i].Stmts = l, roomyStmts(b.Stmts)
	}
	return p
}

// whole are lists with what is behind them, at all depths, as trees that can be held against each other.

func wholeExprs(l []api.Expr) []api.Expr {
	var out []api.Expr
	for _, e := range l[:cap(l)] {
		e.Kids = wholeExprs(e.Kids)
		out = append(out, e)
	}
	return out
}

func wholeStmts(l []api.Stmt) []api.Stmt {
	var out []api.Stmt
	for _, s := range l[:cap(l)] {
		s.Kids, s.Body, s.Else = wholeExprs(s.Kids), wholeStmts(s.Body), wholeStmts(s.Else)
		out = append(out, s)
	}
	return out
}

func wholeProg(p api.Prog) api.Prog {
	for i, b := range p.Blocks {
		var l []api.Decl
		for _, d := range b.Decls[:cap(b.Decls)] {
			d.Size, d.Lower, d.Upper, d.Init = wholeExprs(d.Size), wholeExprs(d.Lower), wholeExprs(d.Upper), wholeExprs(d.Init)
			l = append(l, d)
		}
		p.Blocks[i].Decls, p.Blocks[i].Stmts = l, wholeStmts(b.Stmts)
	}
	return p
}

// R5: nothing of a program is changed, nor what is behind its lists, also where it has a fault; R4: the second time the result is the same.
func TestProgUnchanged(t *testing.T) {
	g := rand.New(rand.NewPCG(15, 4))
	m := &maker{g: g}
	for i := range 300 {
		p := placed(parsed(t, ordinaryProgram()))
		if i > 0 {
			p = m.prog()
		}
		p = roomyProg(p)
		if i%3 == 2 {
			oneOf(g, newEditor("a", "b", "x", "y", "n").prog(&p)...).do()
		}
		before := wholeProg(p)
		f, l := kind.Check(p), kind.Vars(p)
		if !reflect.DeepEqual(before, wholeProg(p)) {
			t.Fatalf("%s was changed", shownTree(p))
		}
		if again := kind.Check(p); again != f || !slices.Equal(kind.Vars(p), l) {
			t.Errorf("%s is %s, and %s the second time", shownTree(p), shownFault(f), shownFault(again))
		}
	}
}

// R5: nor are an expression and the variables, or what is behind them.
func TestExprUnchanged(t *testing.T) {
	g := rand.New(rand.NewPCG(15, 5))
	for range 3000 {
		l := roomyExprs(exprs(placedExpr(anyExpr(g, g.IntN(5)))))
		vars := make([]api.Var, 10, 13)
		copy(vars, some())
		_ = append(vars, api.Var{Name: "x", Type: api.TyVec}, api.Var{Name: "n", Type: api.TyVec}, api.Var{Name: "spare"})
		before, beforeVars := wholeExprs(l), slices.Clone(vars[:13])
		k, f := checkExpr(t, l[0], vars)
		if !reflect.DeepEqual(before, wholeExprs(l)) || !slices.Equal(beforeVars, vars[:13]) {
			t.Fatalf("%s, or the variables, were changed", shownExpr(l[0]))
		}
		if again, g := kind.Of(l[0], vars); again != k || g != f {
			t.Errorf("%s is %v, and %v the second time", shownExpr(l[0]), k, again)
		}
	}
}

// R4: an earlier call does not matter, also if it had a fault; nor do calls side by side.
func TestSideBySide(t *testing.T) {
	p := parsed(t, ordinaryProgram())
	bad := parsed(t, "data { int n; } model { for (i in 1:n) { for (mu in 1:n) { target += a; } } }")
	want := kind.Vars(p)
	var wait sync.WaitGroup
	for range 8 {
		wait.Go(func() {
			for range 50 {
				if f := kind.Check(bad); f.E != api.ErrName || len(kind.Vars(bad)) > 0 {
					t.Error(shownFault(f))
				}
				if f := kind.Check(p); f != (api.Fault{}) || !slices.Equal(kind.Vars(p), want) {
					t.Error(shownFault(f))
				}
				if k, f := kind.Of(name("V"), some()); k != (api.Kind{Type: api.TyVec, Par: true}) || f != (api.Fault{}) {
					t.Error(k, shownFault(f))
				}
				if args, discrete, is := kind.Discrete("poisson"); args != 1 || !discrete || !is {
					t.Error("poisson")
				}
			}
		})
	}
	wait.Wait()
}

// deep is how many parts a tree has that is deeper than calls within calls could go in so small a stack.
const (
	deep  = 1 << 19
	stack = 1 << 24
)

// R1: expressions that are very deep, on either side, and with a fault at the bottom.
func TestDeepExpr(t *testing.T) {
	defer debug.SetMaxStack(debug.SetMaxStack(stack))
	for _, around := range []func(e api.Expr) api.Expr{
		func(e api.Expr) api.Expr { return ex(api.ExNeg, "", e) },
		func(e api.Expr) api.Expr { return ex(api.ExAdd, "", e, num("1")) },
		func(e api.Expr) api.Expr { return ex(api.ExAdd, "", name("R"), e) },
		func(e api.Expr) api.Expr { return ex(api.ExCall, "exp", e) },
	} {
		e, wrong := name("R"), api.Expr{Op: api.ExName, Name: "a", At: 5}
		for range deep {
			e, wrong = around(e), around(wrong)
		}
		if k, f := kind.Of(e, some()); k != (api.Kind{Type: api.TyReal, Par: true}) || f != (api.Fault{}) {
			t.Errorf("a deep expression: %v, %s", k, shownFault(f))
		}
		if k, f := kind.Of(wrong, some()); k != (api.Kind{}) || f != (api.Fault{E: api.ErrName, At: 5}) {
			t.Errorf("a deep expression with a fault: %v, %s", k, shownFault(f))
		}
	}
	e := num("1")
	for range deep {
		e = ex(api.ExIndex, "k", e)
	}
	if k, f := kind.Of(e, some()); k != (api.Kind{Type: api.TyInt}) || f != (api.Fault{}) {
		t.Errorf("a deep index: %v, %s", k, shownFault(f))
	}
	var p api.Prog
	p.Blocks[api.BkData] = api.Block{Is: true, Decls: []api.Decl{{Type: api.TyInts, Name: "k", Size: exprs(num("2"))}, {Type: api.TyInt, Name: "n", Lower: exprs(e), Upper: exprs(e)}}}
	if f := kind.Check(p); f != (api.Fault{}) {
		t.Errorf("a deep bound: %s", shownFault(f))
	}
}

// R1: statements that are very deep: each loop has a variable of its own, which all that are in it have, and nothing behind it.
func TestDeepStatements(t *testing.T) {
	defer debug.SetMaxStack(debug.SetMaxStack(stack))
	at := func(i int) string { return "i" + strconv.Itoa(i) }
	nest := func(bottom api.Stmt) api.Prog {
		s := bottom
		for i := range deep {
			inner := []api.Stmt{s}
			switch i % 4 {
			case 0:
				s = api.Stmt{Op: api.StFor, Name: at(i), Kids: exprs(num("1"), num("2")), Body: inner}
			case 1:
				s = api.Stmt{Op: api.StIf, Kids: exprs(ex(api.ExLt, "", num("1"), num("2"))), Body: inner}
			case 2:
				s = api.Stmt{Op: api.StIf, Kids: exprs(ex(api.ExLt, "", num("1"), num("2"))), Else: inner}
			default:
				s = api.Stmt{Op: api.StBlock, Body: inner}
			}
		}
		return inModel(s, term(api.Expr{Op: api.ExName, At: 6, Name: at(0)}))
	}
	for _, i := range []int{0, deep / 2, deep - 4} {
		if f := kind.Check(nest(term(name(at(i))))); f != (api.Fault{E: api.ErrName, At: 6}) {
			t.Errorf("deep statements: %s", shownFault(f))
		}
		if f := kind.Check(nest(api.Stmt{Op: api.StFor, At: 7, Name: at(i), Kids: exprs(num("1"), num("2"))})); f != (api.Fault{E: api.ErrDouble, At: 7}) {
			t.Errorf("deep loops: %s", shownFault(f))
		}
	}
	p := nest(term(num("1")))
	p.Blocks[api.BkModel].Stmts = p.Blocks[api.BkModel].Stmts[:1]
	if f, l := kind.Check(p), kind.Vars(p); f != (api.Fault{}) || len(l) > 0 {
		t.Errorf("deep statements: %s, %d variables", shownFault(f), len(l))
	}
}

// R1: expressions that are very wide.
func TestWide(t *testing.T) {
	const wide = 300000
	l := slices.Repeat(exprs(num("1")), wide)
	for _, f := range append(functions(), "f") {
		e := api.Expr{Op: api.ExCall, At: 3, Name: f, Kids: l}
		want := api.Fault{E: api.ErrType, At: 3}
		if f == "f" {
			want.E = api.ErrName
		}
		if k, got := kind.Of(e, nil); k != (api.Kind{}) || got != want {
			t.Errorf("%s of many: %v, %s", f, k, shownFault(got))
		}
	}
	s := api.Stmt{Op: api.StDist, At: 4, Name: "normal", Kids: l}
	if f := kind.Check(inModel(s)); f != (api.Fault{E: api.ErrType, At: 4}) {
		t.Errorf("a distribution of many: %s", shownFault(f))
	}
	vars := slices.Repeat(some(), wide/10)
	if k, f := kind.Of(name("v"), vars); k != (api.Kind{Type: api.TyVec}) || f != (api.Fault{}) {
		t.Errorf("of many variables: %v, %s", k, shownFault(f))
	}
}
