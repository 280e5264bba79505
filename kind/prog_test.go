package kind_test

import (
	"slices"
	"strconv"
	"testing"

	"stepstone/api"
	"stepstone/kind"
)

// has checks the variables of a program.
func has(t *testing.T, s string, want ...api.Var) {
	t.Helper()
	passes(t, s)
	if got := kind.Vars(parsed(t, s)); !slices.Equal(got, want) {
		t.Errorf("Vars(%s) = %v, want %v", s, got, want)
	}
}

// P15.2: no blocks, empty ones, and each of them alone.
func TestBlocks(t *testing.T) {
	has(t, "")
	all := ""
	for i, title := range titles() {
		has(t, title+" { }")
		before := all
		all += title + " { } "
		has(t, all)
		if i != api.BkModel {
			x := api.Var{Name: "x", Type: api.TyReal, Block: i, Par: i >= api.BkPars}
			has(t, title+" { real x; }", x)
			has(t, before+title+" { real x; }", x)
		}
	}
	var p api.Prog
	for i := range p.Blocks {
		p.Blocks[i] = api.Block{Decls: []api.Decl{}, Stmts: make([]api.Stmt, 0, 4)}
	}
	if f := check(t, p); f != (api.Fault{}) {
		t.Error(shownFault(f))
	}
}

// P15.2: the variables of a program with everything.
func TestVars(t *testing.T) {
	v := func(name string, ty uint8, block int) api.Var {
		return api.Var{Name: name, Type: ty, Block: block, Par: block >= 2}
	}
	has(t, ordinaryProgram(),
		v("n", api.TyInt, 0), v("r", api.TyReal, 0), v("v", api.TyVec, 0), v("k", api.TyInts, 0), v("y", api.TyReals, 0),
		v("m", api.TyInt, 1), v("mean", api.TyReal, 1), v("w", api.TyVec, 1), v("j", api.TyInts, 1), v("z", api.TyReals, 1), v("i", api.TyInt, 1),
		v("mu", api.TyReal, 2), v("s", api.TyReal, 2), v("x", api.TyVec, 2), v("u", api.TyReals, 2),
		v("t", api.TyReal, 3), v("p", api.TyVec, 3), v("q", api.TyReals, 3), v("e", api.TyVec, 3),
		v("a", api.TyReal, 5), v("h", api.TyReals, 5), v("g", api.TyVec, 5))
	// In order, whatever their names are; without those of loops.
	has(t, "data { int z; int a; int m; } transformed data { for (b in 1:2) { for (c in 1:b) { } } } model { for (q in 1:2) { } } generated quantities { real y; real b; }", v("z", api.TyInt, 0), v("a", api.TyInt, 0), v("m", api.TyInt, 0), v("y", api.TyReal, 5), v("b", api.TyReal, 5))
	has(t, "model { for (q in 1:2) { } }")
	has(t, "transformed data { for (q in 1:2) { } } generated quantities { for (q in 1:2) { } }")
	for _, s := range []string{"data { int n; int n; }", "data { int n; } model { n = 1; }", "data { int n; } parameters { int m; }", "data { int n; } generated quantities { real x; target += 1; }", "data { int n; } model { for (i in 1:2) { if (i < 1) { target += a; } } }"} {
		if l := kind.Vars(parsed(t, s)); len(l) > 0 {
			t.Errorf("Vars(%s) = %v", s, l)
		}
	}
}

// P15.2: a program may have any number of variables, loops and statements.
func TestMany(t *testing.T) {
	var p api.Prog
	p.Blocks[api.BkData].Is, p.Blocks[api.BkMade].Is, p.Blocks[api.BkModel].Is = true, true, true
	data, made, model := &p.Blocks[api.BkData], &p.Blocks[api.BkMade], &p.Blocks[api.BkModel]
	const many = 50000
	var want []api.Var
	for i := range many {
		s := "v" + strconv.Itoa(i)
		data.Decls = append(data.Decls, api.Decl{Type: api.TyInt, Name: s, At: i})
		want = append(want, api.Var{Name: s, Type: api.TyInt})
		made.Stmts = append(made.Stmts, api.Stmt{Op: api.StFor, Name: "w" + strconv.Itoa(i/2), Kids: exprs(num("1"), name(s))})
		model.Stmts = append(model.Stmts, api.Stmt{Op: api.StFor, Name: "w", Kids: exprs(num("1"), name(s)), Body: []api.Stmt{term(name("w"))}}, term(name(s)))
	}
	if f := kind.Check(p); f != (api.Fault{}) || !slices.Equal(kind.Vars(p), want) {
		t.Errorf("many variables and loops: %s", shownFault(f))
	}
	for _, i := range []int{0, 1, many / 2, many - 1} {
		s := "v" + strconv.Itoa(i)
		q := p
		q.Blocks[api.BkModel].Stmts = append(slices.Clone(model.Stmts), api.Stmt{Op: api.StFor, At: 77, Name: s, Kids: exprs(num("1"), num("2"))})
		if f := kind.Check(q); f != (api.Fault{E: api.ErrDouble, At: 77}) {
			t.Errorf("a loop of %s: %s", s, shownFault(f))
		}
		q.Blocks[api.BkModel].Stmts = append(slices.Clone(model.Stmts), term(api.Expr{Op: api.ExName, At: 78, Name: "w" + strconv.Itoa(i)}))
		if f := kind.Check(q); f != (api.Fault{E: api.ErrName, At: 78}) {
			t.Errorf("behind loops: %s", shownFault(f))
		}
	}
}

// wrongExprs are trees that are not valid.
func wrongExprs() []api.Expr {
	one := num("1")
	return []api.Expr{
		{}, num(""), num("x"), num("1.2.3"), num("-1"), name(""), name("for"), name("1"), {Op: api.ExNum, Name: "1", Kids: exprs(one)}, {Op: api.ExName, Name: "n", Kids: exprs(one)},
		ex(api.ExIndex, "v"), ex(api.ExIndex, "v", one, one), ex(api.ExIndex, "", one), ex(api.ExCall, "", one), ex(api.ExCall, "target", one),
		ex(api.ExNeg, ""), ex(api.ExNeg, "", one, one), ex(api.ExNeg, "n", one), ex(api.ExAdd, "", one), ex(api.ExAdd, "", one, one, one), ex(api.ExSub, "", one), ex(api.ExMul, "", one), ex(api.ExDiv, "", one), ex(api.ExDiv, "n", one, one), ex(api.ExAdd, ""),
		ex(api.ExEq, "", one, one), ex(api.ExNe, "", one, one), ex(api.ExLt, "", one, one), ex(api.ExLe, "", one, one), ex(api.ExGt, "", one, one), ex(api.ExGe, "", one, one), ex(16, "", one), ex(255, "n"),
	}
}

// P15.1: a tree that is not valid, wherever that is, is ErrTree at 0, ahead of all other faults.
func TestWrongExpr(t *testing.T) {
	for _, w := range wrongExprs() {
		w.At = 9
		for _, e := range []api.Expr{
			w, ex(api.ExNeg, "", w), ex(api.ExAdd, "", w, num("1")), ex(api.ExAdd, "", name("a"), w), ex(api.ExMul, "", ex(api.ExMul, "", name("v"), name("v")), w), ex(api.ExIndex, "v", w), ex(api.ExIndex, "a", ex(api.ExNeg, "", w)),
			ex(api.ExCall, "exp", w), ex(api.ExCall, "f", w), ex(api.ExCall, "f", name("a"), name("b"), w), ex(api.ExCall, "size", ex(api.ExCall, "exp"), w), ex(api.ExAdd, "", ex(api.ExIndex, "v", name("N")), w),
		} {
			e.At = 5
			for _, vars := range [][]api.Var{some(), nil} {
				if k, f := kind.Of(e, vars); k != (api.Kind{}) || f != (api.Fault{E: api.ErrTree}) {
					t.Errorf("Of(%s): %v, %s", shownExpr(e), k, shownFault(f))
				}
			}
		}
	}
}

// refuses checks that a program is not a tree.
func refuses(t *testing.T, p api.Prog) {
	t.Helper()
	p = placed(p)
	if f, l := kind.Check(p), kind.Vars(p); f != (api.Fault{E: api.ErrTree}) || len(l) > 0 {
		t.Errorf("Check(%s): %s, %v", shownTree(p), shownFault(f), l)
	}
}

// P15.2: the same of programs, with other faults ahead of it, or without.
func TestWrongProg(t *testing.T) {
	one := exprs(num("1"))
	wrongStmts := []api.Stmt{{}, {Op: 7}, {Op: api.StSet, Kids: one}, {Op: api.StSet, Name: "x"}, {Op: api.StAdd}, {Op: api.StAdd, Name: "x", Kids: one}, {Op: api.StDist, Name: "normal"}, {Op: api.StDist, Kids: one}, {Op: api.StFor, Name: "i", Kids: one}, {Op: api.StFor, Kids: exprs(num("1"), num("2"))}, {Op: api.StIf, Kids: one}, {Op: api.StIf}, {Op: api.StBlock, Name: "x"}, {Op: api.StBlock, Kids: one},
		{Op: api.StBlock, Else: []api.Stmt{{Op: api.StBlock}}}, {Op: api.StAdd, Kids: one, Body: []api.Stmt{{Op: api.StBlock}}}, {Op: api.StFor, Name: "i", Kids: exprs(num("1"), num("2")), Else: []api.Stmt{{Op: api.StBlock}}}}
	for _, w := range wrongExprs() {
		wrongStmts = append(wrongStmts, term(w), api.Stmt{Op: api.StSet, Name: "x", Kids: exprs(w)}, api.Stmt{Op: api.StSet, Name: "x", Kids: exprs(num("1"), w)}, api.Stmt{Op: api.StDist, Name: "f", Kids: exprs(num("1"), w)}, api.Stmt{Op: api.StFor, Name: "i", Kids: exprs(w, num("1"))}, api.Stmt{Op: api.StIf, Kids: exprs(ex(api.ExEq, "", num("1"), w))})
	}
	sources := []string{"", "data { int n; int n; }", "data { int n; real x; }", "parameters { int n; }", "transformed data { a = b; }", "model { a = b; }", "data { vector[a] v; }"}
	for _, s := range sources {
		for _, w := range wrongStmts {
			p := parsed(t, s)
			for i := range p.Blocks {
				q := p
				q.Blocks[i].Stmts = append(slices.Clone(q.Blocks[i].Stmts), w)
				refuses(t, q)
				if q.Blocks[i].Is = true; i != api.BkData && i != api.BkPars {
					refuses(t, q)
					q.Blocks[i].Stmts = []api.Stmt{{Op: api.StBlock, Body: []api.Stmt{term(name("a")), {Op: api.StIf, Kids: exprs(ex(api.ExEq, "", name("b"), num("1"))), Else: []api.Stmt{w}}}}}
					refuses(t, q)
				}
			}
		}
		wrongDecls := []api.Decl{{}, {Type: api.TyInt}, {Type: 6, Name: "x"}, {Type: api.TyInt, Name: "if"}, {Type: api.TyInt, Name: "x", Size: one}, {Type: api.TyVec, Name: "x"}, {Type: api.TyReals, Name: "x", Size: exprs(num("1"), num("2"))}, {Type: api.TyInts, Name: "x", Size: one, Init: one}, {Type: api.TyReal, Name: "x", Lower: exprs(num("1"), num("2"))}}
		for _, w := range wrongExprs() {
			wrongDecls = append(wrongDecls, api.Decl{Type: api.TyVec, Name: "x", Size: exprs(w)}, api.Decl{Type: api.TyInt, Name: "x", Lower: exprs(w)}, api.Decl{Type: api.TyReal, Name: "x", Upper: exprs(w)})
		}
		for _, w := range wrongDecls {
			for i := range titles() {
				q := parsed(t, s)
				q.Blocks[i].Is = true
				q.Blocks[i].Decls = append(slices.Clone(q.Blocks[i].Decls), w)
				refuses(t, q)
			}
		}
		for _, i := range []int{api.BkData, api.BkPars} {
			q := parsed(t, s)
			q.Blocks[i].Is = true
			q.Blocks[i].Decls = append(slices.Clone(q.Blocks[i].Decls), api.Decl{Type: api.TyReal, Name: "z", Init: one})
			refuses(t, q)
		}
	}
	p := parsed(t, ordinaryProgram())
	for i := range p.Blocks {
		q := p
		q.Blocks[i].Is = false
		refuses(t, q)
	}
}
