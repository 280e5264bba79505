package tree_test

import (
	"strconv"
	"testing"

	"stepstone/api"
	"stepstone/tree"
)

// isSame checks Same of expressions, and of programs that have them somewhere, either way round.
func isSame(t *testing.T, what string, a, b api.Expr, want bool) {
	t.Helper()
	if tree.SameExpr(a, b) != want || tree.SameExpr(b, a) != want || !tree.SameExpr(a, a) || !tree.SameExpr(b, b) {
		t.Errorf("%s: SameExpr is not %v", what, want)
	}
	c := func(e api.Expr) api.Expr { return both(api.ExGt, num("1"), e) }
	of := []func(e api.Expr) api.Expr{neg, func(e api.Expr) api.Expr { return call("f", num("1"), neg(e), num("1")) }, func(e api.Expr) api.Expr { return sum(num("2"), times(e, num("2"))) }, c}
	for i, in := range of {
		if tree.SameExpr(in(a), in(b)) != want {
			t.Errorf("%s: SameExpr of others with it, %d, is not %v", what, i, want)
		}
	}
	progs := []func(e api.Expr) api.Prog{
		func(e api.Expr) api.Prog { return inModel(add(num("1")), set("x", num("1"), e), group()) },
		func(e api.Expr) api.Prog { return inModel(choice(c(e), stmts(group()), nil)) },
		func(e api.Expr) api.Prog { return inModel(choice(e, nil, nil)) },
		func(e api.Expr) api.Prog { return inModel(group(loop("i", num("1"), num("2"), dist("d", e)))) },
		func(e api.Expr) api.Prog {
			return in(api.BkMade, decls(decl(api.TyVec, "v", exprs(e), nil, nil, nil)), nil)
		},
		func(e api.Expr) api.Prog {
			return in(api.BkPars, decls(plain(api.TyReal, "a"), decl(api.TyReal, "v", nil, exprs(num("0")), exprs(e), nil)), nil)
		},
		func(e api.Expr) api.Prog {
			return in(api.BkTurned, decls(decl(api.TyReal, "v", nil, nil, nil, exprs(e))), stmts(group()))
		},
	}
	for i, in := range progs {
		if tree.Same(in(a), in(b)) != want || tree.Same(in(b), in(a)) != want {
			t.Errorf("%s: Same of programs with it, %d, is not %v", what, i, want)
		}
	}
}

// P12.3: expressions that differ in one thing, valid ones and others.
func TestSameExpr(t *testing.T) {
	a, b, one := name("a"), name("b"), num("1")
	all := exprs(
		one, num("1.0"), num("01"), num("2"), num(""), a, b, name("A"), name("1"), name(""), api.Expr{}, ex(api.ExName, "a", one),
		index("a", one), index("a", b), index("b", one), call("a"), call("b"), call("a", one), call("a", b), call("a", one, one), call("a", one, b), call("a", b, one), call("a", call("a", one)), call("a", call("a"), one),
		neg(one), neg(a), neg(neg(a)), ex(api.ExNeg, "a", a), ex(api.ExNeg, ""), ex(77, ""), ex(77, "", one), ex(78, "", one),
		sum(a, b), sum(b, a), less(a, b), times(a, b), by(a, b), by(b, a), sum(sum(a, b), one), sum(a, sum(b, one)), less(less(a, b), one), less(a, less(b, one)),
		both(api.ExEq, a, b), both(api.ExNe, a, b), both(api.ExLt, a, b), both(api.ExLe, a, b), both(api.ExGt, a, b), both(api.ExGe, a, b), both(api.ExGe, b, a), ex(api.ExGe, "", a, b, a), ex(api.ExGe, "", a),
	)
	for i, x := range all {
		for j, y := range all {
			isSame(t, strconv.Itoa(i)+" and "+strconv.Itoa(j), x, y, i == j)
		}
	}
}

// P12.3: places do not matter, at any depth, nor whether a list without anything is nil.
func TestSamePlaces(t *testing.T) {
	at := func(e api.Expr, n int) api.Expr {
		l := copyExprs(exprs(e))
		var move func(l []api.Expr)
		move = func(l []api.Expr) {
			for i := range l {
				l[i].At = n + i
				if len(l[i].Kids) == 0 {
					l[i].Kids = make([]api.Expr, 0, n%3)
				}
				move(l[i].Kids)
			}
		}
		move(l)
		return l[0]
	}
	for _, e := range exprs(num("1"), call("f"), neg(sum(name("a"), index("b", call("f", num("1"), name("c"))))), both(api.ExLe, name("a"), neg(num("1"))), api.Expr{}) {
		isSame(t, "places", at(e, 5), at(e, 100), true)
		isSame(t, "places", e, at(e, -3), true)
	}
	p, q := ordinary(), ordinary()
	for i, b := range q.Blocks {
		for j := range b.Decls {
			b.Decls[j].At = j
			if len(b.Decls[j].Init) == 0 {
				b.Decls[j].Init = exprs()
			}
		}
		for j := range b.Stmts {
			b.Stmts[j].At = 1000 * j
			if len(b.Stmts[j].Else) == 0 {
				b.Stmts[j].Else = stmts()
			}
		}
		if len(b.Decls) == 0 {
			q.Blocks[i].Decls = decls()
		}
	}
	if !tree.Same(p, q) || !tree.Same(q, p) || !tree.Same(p, p) {
		t.Error("programs that differ in places, and in lists without anything, are not the same")
	}
}

// P12.3: programs that differ in one thing, each held against each.
func TestSame(t *testing.T) {
	x, one := name("x"), num("1")
	l := exprs(one)
	c := both(api.ExEq, x, one)
	var progs []api.Prog
	for i := range 6 {
		absent := in(i, decls(plain(api.TyInt, "n")), nil)
		absent.Blocks[i].Is = false
		progs = append(progs, in(i, nil, nil), in(i, decls(plain(api.TyInt, "n")), nil), absent, in(i, nil, stmts(group())), in(i, decls(api.Decl{}), nil), in(i, nil, stmts(api.Stmt{})))
	}
	progs = append(progs, api.Prog{}, ordinary())
	for _, s := range []api.Stmt{
		set("x", one), set("y", one), set("x", x), set("x", one, one), set("x", one, x), set("x", x, one), add(one), add(x), st(api.StAdd, "x", l, nil, nil), dist("x", one), dist("x", one, one), dist("x", one, one, one), dist("y", one),
		loop("i", one, x), loop("j", one, x), loop("i", x, one), loop("i", one, x, group()), loop("i", one, x, group(), group()), loop("i", one, x, group(group())), group(), group(group()), group(group(), group()), group(group(group()), group()), group(group(), group(group())), st(api.StBlock, "x", nil, nil, nil), st(9, "", nil, nil, nil),
		choice(c, nil, nil), choice(c, stmts(add(x)), nil), choice(c, nil, stmts(add(x))), choice(c, stmts(add(x)), stmts(add(x))), choice(c, stmts(add(x)), stmts(add(one))), choice(c, stmts(choice(c, nil, nil)), nil), choice(c, nil, stmts(choice(c, nil, nil))), choice(both(api.ExNe, x, one), nil, nil),
		st(api.StBlock, "", nil, nil, stmts(group())), st(api.StFor, "i", exprs(one, x), nil, stmts(group())),
	} {
		progs = append(progs, inModel(s), inModel(s, s), inModel(loop("k", one, one, s)))
	}
	for _, ty := range append(types(), 0, 6) {
		for _, lists := range [][4][]api.Expr{{}, {l}, {nil, l}, {nil, nil, l}, {nil, nil, nil, l}, {l, l}, {l, nil, l}, {nil, l, l}, {l, l, l, l}, {exprs(x)}, {exprs(one, one)}} {
			progs = append(progs, in(api.BkTurned, decls(decl(ty, "n", lists[0], lists[1], lists[2], lists[3])), nil))
		}
	}
	progs = append(progs, in(api.BkTurned, decls(plain(api.TyVec, "n"), plain(api.TyVec, "m")), nil), in(api.BkTurned, decls(plain(api.TyVec, "m"), plain(api.TyVec, "n")), nil))
	for i, p := range progs {
		for j, q := range progs {
			// Those of the list that are the same by chance are the same to the model too.
			if want := areSame(p, q); tree.Same(p, q) != want || i == j && !want {
				t.Errorf("Same of %d and %d is %v", i, j, !want)
			}
		}
	}
}

// P12.3: how many there are, by hand.
func TestNodes(t *testing.T) {
	x, one := name("x"), num("1")
	l := exprs(one)
	for i, c := range []struct {
		p    api.Prog
		want int
	}{
		{api.Prog{}, 0}, {in(api.BkData, nil, nil), 0}, {inModel(group()), 1}, {inModel(group(group(), group())), 3}, {inModel(add(x)), 2}, {inModel(set("x", one, x)), 3}, {inModel(dist("d", x, one, one)), 4},
		{inModel(loop("i", one, sum(x, one), add(x))), 7}, {inModel(choice(both(api.ExLt, x, one), stmts(group()), stmts(add(x)))), 7}, {inModel(choice(both(api.ExLt, neg(x), one), nil, nil)), 5},
		{in(api.BkData, decls(plain(api.TyInt, "n"), plain(api.TyVec, "v")), nil), 3}, {in(api.BkMade, decls(decl(api.TyVec, "v", l, l, l, l)), stmts(group())), 6},
		{inModel(add(call("f", x, neg(index("x", one)), call("g")))), 7},
		// Trees that are not valid.
		{inModel(api.Stmt{}), 1}, {in(api.BkModel, decls(api.Decl{}), nil), 1}, {inModel(add(api.Expr{})), 2}, {inModel(st(99, "", exprs(ex(99, "", x, x, x)), stmts(group()), stmts(group(group())))), 8},
		{in(api.BkData, decls(decl(77, "", exprs(x, x), exprs(x, x), exprs(x, neg(x)), exprs(x, x))), stmts(group())), 11},
		{api.Prog{Blocks: [6]api.Block{1: {Decls: decls(plain(api.TyInt, "n")), Stmts: stmts(group())}, 5: {Stmts: stmts(add(x))}}}, 4},
		{inModel(add(both(api.ExEq, x, one))), 4}, {inModel(st(api.StBlock, "", l, nil, stmts(group()))), 3}, {inModel(set("x", ex(api.ExNum, "1", x))), 3},
	} {
		if n := tree.Nodes(c.p); n != c.want || n != count(c.p) {
			t.Errorf("Nodes of %d = %d, want %d", i, n, c.want)
		}
	}
}
