package tree_test

import (
	"math/rand/v2"
	"slices"
	"strings"
	"testing"

	"stepstone/api"
	"stepstone/tree"
)

func oneOf[T any](g *rand.Rand, l ...T) T { return l[g.IntN(len(l))] }

func anyName(g *rand.Rand) string {
	return oneOf(g, "a", "b", "x1", "y_", "normal", "datas", "E", "e5", "in_", "foreach", "T")
}

// anyExpr is a valid expression, whose depth is not much more.
func anyExpr(g *rand.Rand, depth int) api.Expr {
	if depth <= 0 || g.IntN(6) == 0 {
		return oneOf(g, num("1"), num("0.5"), num("12e-3"), name(anyName(g)), call(anyName(g)))
	}
	a, b := anyExpr(g, depth-1), anyExpr(g, depth-1-g.IntN(depth))
	if g.IntN(2) == 0 {
		a, b = b, a
	}
	switch g.IntN(9) {
	case 0:
		return index(anyName(g), a)
	case 1:
		return call(anyName(g), exprs(a, b, num("2"))[:g.IntN(4)]...)
	case 2, 3:
		return neg(a)
	}
	return both(oneOf(g, operations()...), a, b)
}

func anyExprs(g *rand.Rand, least, most int) []api.Expr {
	var out []api.Expr
	for range least + g.IntN(most-least+1) {
		out = append(out, anyExpr(g, g.IntN(4)))
	}
	return out
}

func anyStmts(g *rand.Rand, depth int) []api.Stmt {
	var out []api.Stmt
	for range g.IntN(4) {
		out = append(out, anyStmt(g, depth))
	}
	return out
}

func anyStmt(g *rand.Rand, depth int) api.Stmt {
	kinds := 6
	if depth <= 0 {
		kinds = 3
	}
	switch g.IntN(kinds) {
	case 0:
		return set(anyName(g), anyExprs(g, 1, 2)...)
	case 1:
		return add(anyExpr(g, 3))
	case 2:
		return dist(anyName(g), anyExprs(g, 1, 4)...)
	case 3:
		return loop(anyName(g), anyExpr(g, 2), anyExpr(g, 2), anyStmts(g, depth-1)...)
	case 4:
		return choice(both(oneOf(g, comparisons()...), anyExpr(g, 2), anyExpr(g, 2)), anyStmts(g, depth-1), anyStmts(g, depth-1))
	}
	return group(anyStmts(g, depth-1)...)
}

func anyDecls(g *rand.Rand, at int) []api.Decl {
	var out []api.Decl
	for range g.IntN(4) {
		d := decl(oneOf(g, types()...), anyName(g), nil, anyExprs(g, 0, 1), anyExprs(g, 0, 1), nil)
		if d.Type >= api.TyVec {
			d.Size = anyExprs(g, 1, 1)
		}
		if d.Type <= api.TyVec && at != api.BkData && at != api.BkPars {
			d.Init = anyExprs(g, 0, 1)
		}
		out = append(out, d)
	}
	return out
}

// anyProg is a valid program.
func anyProg(g *rand.Rand) api.Prog {
	var p api.Prog
	for i := range p.Blocks {
		if g.IntN(3) == 0 {
			continue
		}
		p.Blocks[i].Is = true
		if i != api.BkModel {
			p.Blocks[i].Decls = anyDecls(g, i)
		}
		if i != api.BkData && i != api.BkPars {
			p.Blocks[i].Stmts = anyStmts(g, 3)
		}
	}
	return p
}

// differently keeps what was written, and checks that trees that are not equal are not written in the same way.
type differently[T any] struct {
	seen map[string]T
	same func(a, b T) bool
}

func (d *differently[T]) check(t *testing.T, s string, a T) {
	t.Helper()
	if b, is := d.seen[s]; is && !d.same(a, b) {
		t.Errorf("two trees are written as %s", shown(s))
	}
	d.seen[s] = a
}

// P12.1 to P12.4: valid programs of all sorts: held against the model, read as they were written, the same as those that are written in the same way alone.
func TestAnyProg(t *testing.T) {
	g := rand.New(rand.NewPCG(12, 1))
	m := newModel()
	d := &differently[api.Prog]{map[string]api.Prog{}, tree.Same}
	var last api.Prog
	for range 2000 {
		p := anyProg(g)
		if tree.Check(p) != api.OK {
			t.Fatal("a valid program is refused")
		}
		m.check(t, p)
		checkSame(t, "one and the next one", p, last)
		checkSame(t, "a copy", p, copyProg(p))
		s, _ := tree.Write(p)
		d.check(t, s, p)
		last = p
	}
}

// The same of expressions.
func TestAnyExpr(t *testing.T) {
	g := rand.New(rand.NewPCG(12, 2))
	m := newModel()
	d := &differently[api.Expr]{map[string]api.Expr{}, tree.SameExpr}
	var last api.Expr
	for range 20000 {
		e := anyExpr(g, g.IntN(8))
		if tree.CheckExpr(e) != api.OK {
			t.Fatal("a valid expression is refused")
		}
		m.checkExpr(t, e)
		checkSameExpr(t, "one and the next one", e, last)
		s, _ := tree.WriteExpr(e)
		d.check(t, s, e)
		last = e
	}
}

// P12.1 to P12.3: programs in which something was changed, so that most are not valid.
func TestAnyWrong(t *testing.T) {
	g := rand.New(rand.NewPCG(12, 3))
	m := newModel()
	for range 150 {
		p := anyProg(g)
		q := copyProg(p)
		edits := progEdits(&q)
		for range 10 {
			var done []edit
			for range 1 + g.IntN(3) {
				e := oneOf(g, edits...)
				e.do()
				done = append(done, e)
				m.check(t, q)
				checkSame(t, e.what, p, q)
			}
			for _, e := range slices.Backward(done) {
				e.undo()
			}
			if !areSame(p, q) {
				t.Fatal("changes were not taken back")
			}
		}
		if t.Failed() {
			return
		}
	}
}

// P12.1 to P12.3: trees of each depth up to a hundred, held against the model, and against the next deeper one.
func TestEachDepth(t *testing.T) {
	m := newModel()
	e, s := name("a"), group()
	for i := range 100 {
		m.checkExpr(t, e)
		p := inModel(add(e), s, add(e))
		m.check(t, p)
		e = []api.Expr{neg(e), sum(num("1"), e), call("f", e, num("2")), index("b", e), by(e, name("c"))}[i%5]
		s = []api.Stmt{group(s, group()), loop("i", num("1"), num("2"), s), choice(both(api.ExLt, num("1"), num("2")), nil, stmts(group(), s))}[i%3]
		checkSame(t, "one and a deeper one", p, inModel(add(e), s, add(e)))
		checkSame(t, "one and a copy", p, copyProg(p))
	}
}

// P12.4: all expressions of up to five parts: each is written in a way of its own, and read as it was written.
func TestAllSmall(t *testing.T) {
	sizes := [][]api.Expr{nil, exprs(num("1"), name("a"), call("a"))}
	for n := 2; n <= 5; n++ {
		var l []api.Expr
		for _, e := range sizes[n-1] {
			l = append(l, neg(e), index("a", e), call("a", e))
		}
		for i := 1; i < n-1; i++ {
			for _, a := range sizes[i] {
				for _, b := range sizes[n-1-i] {
					for _, op := range operations() {
						l = append(l, both(op, a, b))
					}
					l = append(l, call("a", a, b))
				}
			}
		}
		sizes = append(sizes, l)
	}
	m := newModel()
	seen := map[string]int{}
	n := 0
	for _, l := range sizes {
		for _, e := range l {
			m.checkExpr(t, e)
			s, _ := tree.WriteExpr(e)
			seen[s]++
			n++
		}
	}
	if len(seen) != n || n < 4000 {
		t.Errorf("%d expressions are written in %d ways", n, len(seen))
	}
}

// P12.4: trees that are written with the same tokens but for brackets, or for where these are.
func TestWrittenDifferently(t *testing.T) {
	a, b, c, one := name("a"), name("b"), name("c"), num("1")
	lt := both(api.ExLt, a, b)
	progs := []api.Prog{
		{}, in(api.BkData, nil, nil), in(api.BkMade, nil, nil), in(api.BkPars, nil, nil), in(api.BkTurned, nil, nil), inModel(), in(api.BkGenerated, nil, nil),
		inModel(group(), group()), inModel(group(group())), inModel(add(a), group()), inModel(group(add(a))),
		inModel(choice(lt, nil, nil), group()), inModel(choice(lt, stmts(group()), nil)), inModel(choice(lt, nil, stmts(group()))), inModel(choice(lt, stmts(choice(lt, nil, nil)), stmts(group()))), inModel(choice(lt, stmts(choice(lt, nil, stmts(group()))), nil)), inModel(choice(lt, nil, stmts(choice(lt, nil, nil)))), inModel(choice(lt, nil, nil), choice(lt, nil, nil)),
		inModel(loop("i", a, b), add(c)), inModel(loop("i", a, b, add(c))), inModel(set("a", index("b", c))), inModel(set("a", b, c)), inModel(set("a", c)), inModel(dist("b", a)), inModel(dist("b", a, c)), inModel(dist("b", call("a"), c)), inModel(dist("b", call("a", c))),
		inModel(add(less(less(a, b), c))), inModel(add(less(a, less(b, c)))), inModel(add(neg(sum(a, one)))), inModel(add(sum(neg(a), one))), inModel(add(times(neg(a), b))), inModel(add(neg(times(a, b)))), inModel(add(times(a, neg(b)))), inModel(add(neg(times(neg(a), b)))),
		inModel(choice(both(api.ExLt, sum(a, b), c), nil, nil)), inModel(choice(both(api.ExLt, a, sum(b, c)), nil, nil)), inModel(choice(both(api.ExLe, a, b), nil, nil)),
		in(api.BkMade, decls(plain(api.TyInts, "a")), nil), in(api.BkMade, decls(plain(api.TyReals, "a")), nil), in(api.BkMade, decls(plain(api.TyVec, "a")), nil), in(api.BkMade, decls(plain(api.TyInt, "a")), nil), in(api.BkMade, decls(plain(api.TyReal, "a")), nil),
		in(api.BkMade, decls(decl(api.TyReal, "a", nil, exprs(b), nil, nil)), nil), in(api.BkMade, decls(decl(api.TyReal, "a", nil, nil, exprs(b), nil)), nil), in(api.BkMade, decls(decl(api.TyReal, "a", nil, nil, nil, exprs(b))), nil), in(api.BkMade, decls(plain(api.TyReal, "a")), stmts(set("a", b))),
	}
	d := &differently[api.Prog]{map[string]api.Prog{}, func(p, q api.Prog) bool { return false }}
	for _, p := range progs {
		s, err := tree.Write(p)
		if err != api.OK {
			t.Fatal(err)
		}
		d.check(t, s, p)
		readsBack(t, s, p)
	}
}

// P12.2: what is written may be longer than a source may be, and have more tokens.
func TestWriteLong(t *testing.T) {
	long := strings.Repeat("x", 20000)
	writes(t, sum(name(long), num("1")), long+" + 1")
	writes(t, call(long, name(long), name(long)), long+" ( "+long+" , "+long+" )")
	e := name("a")
	for range 20000 {
		e = sum(e, name("a"))
	}
	writes(t, e, "a"+strings.Repeat(" + a", 20000))
	e = name("a")
	for range 20000 {
		e = times(num("2"), e)
	}
	writes(t, e, strings.Repeat("2 * ( ", 19999)+"2 * a"+strings.Repeat(" )", 19999))
}
