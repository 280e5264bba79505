package tree_test

import (
	"strconv"
	"strings"
	"testing"

	"stepstone/api"
	"stepstone/tree"
)

// The chapter's words that are no names.
func taken() []string {
	return strings.Fields("data transformed parameters model generated quantities int real vector array for in if else target lower upper")
}

func operations() []uint8 { return []uint8{api.ExAdd, api.ExSub, api.ExMul, api.ExDiv} }

func comparisons() []uint8 {
	return []uint8{api.ExEq, api.ExNe, api.ExLt, api.ExLe, api.ExGt, api.ExGe}
}

func types() []uint8 {
	return []uint8{api.TyInt, api.TyReal, api.TyVec, api.TyInts, api.TyReals}
}

// Expressions. The At of each is one that no source has: it is of no account in this layer.

func ex(op uint8, name string, kids ...api.Expr) api.Expr {
	return api.Expr{Op: op, At: -7, Name: name, Kids: kids}
}

func num(s string) api.Expr                           { return ex(api.ExNum, s) }
func name(s string) api.Expr                          { return ex(api.ExName, s) }
func index(s string, i api.Expr) api.Expr             { return ex(api.ExIndex, s, i) }
func call(s string, kids ...api.Expr) api.Expr        { return ex(api.ExCall, s, kids...) }
func neg(a api.Expr) api.Expr                         { return ex(api.ExNeg, "", a) }
func both(op uint8, a, b api.Expr) api.Expr           { return ex(op, "", a, b) }
func sum(a, b api.Expr) api.Expr                      { return both(api.ExAdd, a, b) }
func less(a, b api.Expr) api.Expr                     { return both(api.ExSub, a, b) }
func times(a, b api.Expr) api.Expr                    { return both(api.ExMul, a, b) }
func by(a, b api.Expr) api.Expr                       { return both(api.ExDiv, a, b) }
func abc(do func(a, b, c api.Expr) api.Expr) api.Expr { return do(name("a"), name("b"), name("c")) }

// Statements.

func st(op uint8, name string, kids []api.Expr, body, other []api.Stmt) api.Stmt {
	return api.Stmt{Op: op, At: -8, Name: name, Kids: kids, Body: body, Else: other}
}

func set(s string, kids ...api.Expr) api.Stmt  { return st(api.StSet, s, kids, nil, nil) }
func add(a api.Expr) api.Stmt                  { return st(api.StAdd, "", []api.Expr{a}, nil, nil) }
func dist(s string, kids ...api.Expr) api.Stmt { return st(api.StDist, s, kids, nil, nil) }
func group(body ...api.Stmt) api.Stmt          { return st(api.StBlock, "", nil, body, nil) }

func loop(s string, from, to api.Expr, body ...api.Stmt) api.Stmt {
	return st(api.StFor, s, []api.Expr{from, to}, body, nil)
}

func choice(c api.Expr, body, other []api.Stmt) api.Stmt {
	return st(api.StIf, "", []api.Expr{c}, body, other)
}

func stmts(l ...api.Stmt) []api.Stmt { return l }
func exprs(l ...api.Expr) []api.Expr { return l }

// Declarations.

func decl(ty uint8, name string, size, lower, upper, first []api.Expr) api.Decl {
	return api.Decl{Type: ty, At: -9, Name: name, Size: size, Lower: lower, Upper: upper, Init: first}
}

// plain is a declaration of a type with a size if there must be one, and nothing else.
func plain(ty uint8, name string) api.Decl {
	d := decl(ty, name, nil, nil, nil, nil)
	if ty >= api.TyVec {
		d.Size = exprs(num("3"))
	}
	return d
}

func decls(l ...api.Decl) []api.Decl { return l }

// in is a program with one block.
func in(block int, decls []api.Decl, stmts []api.Stmt) api.Prog {
	var p api.Prog
	p.Blocks[block] = api.Block{Is: true, Decls: decls, Stmts: stmts}
	return p
}

// inModel is a program that has these statements.
func inModel(l ...api.Stmt) api.Prog { return in(api.BkModel, nil, l) }

// ordinary is a program with every block, and every kind of declaration, statement, expression and comparison.
func ordinary() api.Prog {
	x, one := name("x"), num("1")
	var p api.Prog
	p.Blocks[api.BkData] = api.Block{Is: true, Decls: decls(
		decl(api.TyInt, "n", nil, exprs(num("0")), nil, nil),
		decl(api.TyReal, "r", nil, nil, exprs(neg(one)), nil),
		decl(api.TyVec, "v", exprs(name("n")), exprs(sum(x, one)), exprs(num("2.5e3")), nil),
		decl(api.TyInts, "k", exprs(num("4")), exprs(num("0")), exprs(num("9")), nil),
		decl(api.TyReals, "y", exprs(less(name("n"), one)), nil, nil, nil),
	)}
	p.Blocks[api.BkMade] = api.Block{Is: true, Decls: decls(decl(api.TyInt, "m", nil, nil, nil, exprs(call("size", name("y"))))), Stmts: stmts(
		loop("i", one, name("m"), set("w", name("i"), by(index("y", name("i")), num("3"))), group()),
	)}
	p.Blocks[api.BkPars] = api.Block{Is: true, Decls: decls(
		decl(api.TyReal, "s", nil, exprs(num("0")), exprs(call("f")), nil),
		decl(api.TyVec, "u", exprs(num("2")), nil, nil, nil),
	)}
	p.Blocks[api.BkTurned] = api.Block{Is: true, Decls: decls(
		decl(api.TyReal, "a", nil, nil, nil, exprs(times(x, sum(x, one)))),
		decl(api.TyVec, "z", exprs(num("2")), nil, nil, exprs(name("u"))),
	), Stmts: stmts(set("b", less(x, less(one, x))))}
	var choices []api.Stmt
	for i, op := range comparisons() {
		other := stmts(add(one))
		if i%2 == 0 {
			other = nil
		}
		choices = append(choices, choice(both(op, sum(x, one), num("0")), stmts(add(x)), other))
	}
	p.Blocks[api.BkModel] = api.Block{Is: true, Stmts: append(choices,
		dist("normal", index("y", sum(one, one)), num("0"), name("s")),
		dist("flat", x),
		group(add(by(x, times(x, one))), loop("i", one, num("3"))),
	)}
	p.Blocks[api.BkGenerated] = api.Block{Is: true, Decls: decls(decl(api.TyReals, "g", exprs(num("2")), nil, nil, nil)), Stmts: stmts(set("g", one, neg(neg(x))))}
	return p
}

func shown(s string) string {
	if len(s) > 500 {
		return strconv.Quote(s[:250]) + " .. " + strconv.Quote(s[len(s)-250:]) + " of " + strconv.Itoa(len(s)) + " bytes"
	}
	return strconv.Quote(s)
}

// writes checks that an expression is valid, and how it is written.
func writes(t *testing.T, e api.Expr, want string) {
	t.Helper()
	if err := tree.CheckExpr(e); err != api.OK {
		t.Errorf("CheckExpr of %s: error %d", shown(want), err)
	}
	if s, err := tree.WriteExpr(e); s != want || err != api.OK {
		t.Errorf("WriteExpr = %s, error %d, want %s", shown(s), err, shown(want))
	}
}

// writesAll is the same for a program. In want a | stands for each line feed.
func writesAll(t *testing.T, p api.Prog, want string) {
	t.Helper()
	want = strings.ReplaceAll(want, "|", "\n")
	if err := tree.Check(p); err != api.OK {
		t.Errorf("Check of %s: error %d", shown(want), err)
	}
	if s, err := tree.Write(p); s != want || err != api.OK {
		t.Errorf("Write = %s, error %d, want %s", shown(s), err, shown(want))
	}
}

// writesIn checks statements by themselves: a model has nothing else.
func writesIn(t *testing.T, want string, l ...api.Stmt) {
	t.Helper()
	writesAll(t, inModel(l...), "model {|"+want+"}|")
}

// refuses checks that an expression is not valid, also where it is a part of others, and of each sort of statement and declaration.
func refuses(t *testing.T, what string, e api.Expr) {
	t.Helper()
	one := num("1")
	for i, x := range []api.Expr{e, neg(e), sum(e, one), by(one, e), index("a", e), call("f", e), call("f", one, neg(neg(e)), one)} {
		refusesOne(t, what+", expression "+strconv.Itoa(i), x)
	}
	for i, s := range []api.Stmt{set("a", e), set("a", e, one), set("a", one, e), add(e), dist("d", e), dist("d", one, one, e), loop("i", e, one), loop("i", one, e), choice(both(api.ExLt, e, one), nil, nil), choice(both(api.ExGe, one, e), nil, nil)} {
		refusesAll(t, what+", statement "+strconv.Itoa(i), inModel(s))
	}
	l := exprs(e)
	for i, d := range []api.Decl{decl(api.TyVec, "v", l, nil, nil, nil), decl(api.TyReals, "v", l, nil, nil, nil), decl(api.TyInt, "v", nil, l, nil, nil), decl(api.TyReal, "v", nil, nil, l, nil), decl(api.TyReal, "v", nil, nil, nil, l)} {
		refusesAll(t, what+", declaration "+strconv.Itoa(i), in(api.BkMade, decls(d), nil))
	}
}

func refusesOne(t *testing.T, what string, e api.Expr) {
	t.Helper()
	if err := tree.CheckExpr(e); err != api.ErrTree {
		t.Errorf("%s: CheckExpr = %d, want ErrTree", what, err)
	}
	if s, err := tree.WriteExpr(e); s != "" || err != api.ErrTree {
		t.Errorf("%s: WriteExpr = %s, error %d, want ErrTree", what, shown(s), err)
	}
}

func refusesAll(t *testing.T, what string, p api.Prog) {
	t.Helper()
	if err := tree.Check(p); err != api.ErrTree {
		t.Errorf("%s: Check = %d, want ErrTree", what, err)
	}
	if s, err := tree.Write(p); s != "" || err != api.ErrTree {
		t.Errorf("%s: Write = %s, error %d, want ErrTree", what, shown(s), err)
	}
}
