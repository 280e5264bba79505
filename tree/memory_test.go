package tree_test

import (
	"math/rand/v2"
	"reflect"
	"slices"
	"strings"
	"testing"
	"unsafe"

	"stepstone/api"
	"stepstone/tree"
)

// begin is where a text is in memory.
func begin(s string) uintptr { return uintptr(unsafe.Pointer(unsafe.StringData(s))) }

func overlap(a, b string) bool {
	return begin(a) < begin(b)+uintptr(len(b)) && begin(b) < begin(a)+uintptr(len(a))
}

// R5: what is written is new memory, also where it is one name alone.
func TestWriteIsNewMemory(t *testing.T) {
	s := strings.Repeat("ab", 50)
	for _, e := range exprs(name(s), num(strings.Repeat("12", 50)), neg(name(s))) {
		first, _ := tree.WriteExpr(e)
		second, _ := tree.WriteExpr(e)
		if overlap(first, s) || overlap(first, e.Name) || overlap(first, second) {
			t.Errorf("%s shares memory with an argument, or an earlier result", shown(first))
		}
	}
}

// roomy are the same trees in lists that have room for two more, which is filled.

func roomyExprs(l []api.Expr) []api.Expr {
	out := make([]api.Expr, len(l), len(l)+2)
	for i, e := range l {
		e.Kids = roomyExprs(e.Kids)
		out[i] = e
	}
	_ = append(out, api.Expr{Op: 91, Name: "spare", Kids: exprs(name("spare"))}, api.Expr{At: 92})
	return out
}

func roomyStmts(l []api.Stmt) []api.Stmt {
	out := make([]api.Stmt, len(l), len(l)+2)
	for i, s := range l {
		s.Kids, s.Body, s.Else = roomyExprs(s.Kids), roomyStmts(s.Body), roomyStmts(s.Else)
		out[i] = s
	}
	_ = append(out, api.Stmt{Op: 93, Name: "spare"}, api.Stmt{At: 94})
	return out
}

func roomyProg(p api.Prog) api.Prog {
	for i, b := range p.Blocks {
		l := make([]api.Decl, len(b.Decls), len(b.Decls)+2)
		for j, d := range b.Decls {
			d.Size, d.Lower, d.Upper, d.Init = roomyExprs(d.Size), roomyExprs(d.Lower), roomyExprs(d.Upper), roomyExprs(d.Init)
			l[j] = d
		}
		_ = append(l, api.Decl{Type: 95, Name: "spare"}, api.Decl{At: 96})
		p.Blocks[i].Decls, p.Blocks[i].Stmts = l, roomyStmts(b.Stmts)
	}
	return p
}

// whole are lists with what is behind them, at all depths, as trees that can be held against each other.

func wholeExprs(l []api.Expr) []api.Expr {
	var out []api.Expr
	for _, e := range l[:cap(l)] {
		e.Kids = wholeExprs(e.Kids)
		out = append(out, e)
	}
	return out
}

func wholeStmts(l []api.Stmt) []api.Stmt {
	var out []api.Stmt
	for _, s := range l[:cap(l)] {
		s.Kids, s.Body, s.Else = wholeExprs(s.Kids), wholeStmts(s.Body), wholeStmts(s.Else)
		out = append(out, s)
	}
	return out
}

func wholeProg(p api.Prog) api.Prog {
	for i, b := range p.Blocks {
		var l []api.Decl
		for _, d := range b.Decls[:cap(b.Decls)] {
			d.Size, d.Lower, d.Upper, d.Init = wholeExprs(d.Size), wholeExprs(d.Lower), wholeExprs(d.Upper), wholeExprs(d.Init)
			l = append(l, d)
		}
		p.Blocks[i].Decls, p.Blocks[i].Stmts = l, wholeStmts(b.Stmts)
	}
	return p
}

// callAll calls all that a program can be an argument of.
func callAll(p api.Prog) {
	tree.Check(p)
	tree.Write(p)
	tree.Nodes(p)
	tree.Same(p, p)
	tree.Same(p, api.Prog{})
}

// R5: nothing of a program is changed, nor what is behind its lists; R4: the second time the result is the same.
func TestProgUnchanged(t *testing.T) {
	g := rand.New(rand.NewPCG(12, 4))
	for i := range 300 {
		p := ordinary()
		if i > 0 {
			p = anyProg(g)
		}
		p = roomyProg(p)
		if i%3 == 2 {
			oneOf(g, progEdits(&p)...).do()
		}
		before := wholeProg(p)
		first, err := tree.Write(p)
		callAll(p)
		if !reflect.DeepEqual(before, wholeProg(p)) {
			t.Fatalf("%s was changed", shown(first))
		}
		if second, again := tree.Write(p); second != first || again != err {
			t.Errorf("%s is written as %s the second time", shown(first), shown(second))
		}
	}
}

func TestExprUnchanged(t *testing.T) {
	g := rand.New(rand.NewPCG(12, 5))
	for i := range 1000 {
		l := roomyExprs(exprs(anyExpr(g, 5)))
		if i%3 == 2 {
			oneOf(g, exprEdits(l)...).do()
		}
		before := wholeExprs(l)
		first, err := tree.WriteExpr(l[0])
		tree.CheckExpr(l[0])
		tree.SameExpr(l[0], l[0])
		tree.SameExpr(l[0], api.Expr{})
		if !reflect.DeepEqual(before, wholeExprs(l)) {
			t.Fatalf("%s was changed", shown(first))
		}
		if second, again := tree.WriteExpr(l[0]); second != first || again != err {
			t.Errorf("%s is written as %s the second time", shown(first), shown(second))
		}
	}
}

// deep is how many parts a tree has that is deeper than calls within calls could go.
const deep = 1 << 21

// R1: an expression that is very deep, and one that differs from it, or is not valid, at the bottom alone.
func TestDeepExpr(t *testing.T) {
	a, b, wrong := name("a"), name("b"), name("")
	for range deep {
		a, b, wrong = neg(a), neg(b), neg(wrong)
	}
	if tree.CheckExpr(a) != api.OK || tree.CheckExpr(wrong) != api.ErrTree || !tree.SameExpr(a, a) || tree.SameExpr(a, b) || tree.SameExpr(a, neg(a)) {
		t.Error("a deep expression: valid, or the same, is wrong")
	}
	if s, err := tree.WriteExpr(a); s != strings.Repeat("- ", deep)+"a" || err != api.OK {
		t.Error("a deep expression: written", shown(s), err)
	}
	if n := tree.Nodes(inModel(add(a))); n != deep+2 {
		t.Error("a deep expression: Nodes", n)
	}
}

// R1: sums and statements that are very deep.
func TestDeepOthers(t *testing.T) {
	const deep = deep / 8
	e := name("a")
	for range deep {
		e = less(num("1"), e)
	}
	writes(t, e, strings.Repeat("1 - ( ", deep-1)+"1 - a"+strings.Repeat(" )", deep-1))
	s := add(name("a"))
	for range deep {
		s = choice(both(api.ExEq, num("1"), num("2")), nil, stmts(s))
	}
	p := inModel(s)
	writesIn(t, strings.Repeat("if ( 1 == 2 ) {|}|else {|", deep)+"target += a ;|"+strings.Repeat("}|", deep), s)
	if n := tree.Nodes(p); n != 4*deep+2 {
		t.Error("deep statements: Nodes", n)
	}
	if !tree.Same(p, p) || tree.Same(p, inModel(s.Else...)) {
		t.Error("deep statements: Same is wrong")
	}
}

// R1: trees that are very wide.
func TestWide(t *testing.T) {
	const wide = 300000
	var l []api.Expr
	for range wide {
		l = append(l, num("1"))
	}
	writes(t, call("f", l...), "f ( "+strings.Repeat("1 , ", wide-1)+"1 )")
	e := call("f", slices.Concat(l, exprs(api.Expr{}))...)
	refusesOne(t, "a wide one", e)
	if tree.SameExpr(e, call("f", slices.Concat(l, exprs(num("1")))...)) || !tree.SameExpr(e, e) {
		t.Error("wide expressions: SameExpr is wrong")
	}
}
