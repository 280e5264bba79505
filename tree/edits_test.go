package tree_test

import (
	"slices"
	"strconv"
	"testing"

	"stepstone/api"
)

// Copies that share no memory.

func copyExprs(l []api.Expr) []api.Expr {
	l = slices.Clone(l)
	for i := range l {
		l[i].Kids = copyExprs(l[i].Kids)
	}
	return l
}

func copyStmts(l []api.Stmt) []api.Stmt {
	l = slices.Clone(l)
	for i := range l {
		l[i].Kids, l[i].Body, l[i].Else = copyExprs(l[i].Kids), copyStmts(l[i].Body), copyStmts(l[i].Else)
	}
	return l
}

func copyDecls(l []api.Decl) []api.Decl {
	l = slices.Clone(l)
	for i, d := range l {
		l[i].Size, l[i].Lower, l[i].Upper, l[i].Init = copyExprs(d.Size), copyExprs(d.Lower), copyExprs(d.Upper), copyExprs(d.Init)
	}
	return l
}

func copyProg(p api.Prog) api.Prog {
	for i, b := range p.Blocks {
		p.Blocks[i].Decls, p.Blocks[i].Stmts = copyDecls(b.Decls), copyStmts(b.Stmts)
	}
	return p
}

// edit is a change of one thing, whatever comes of it, that can be taken back.
type edit struct {
	what     string
	do, undo func()
}

// of are edits of one thing. They must not change what its lists have, but put others in their place.
func of[T any](spot *T, l ...[]edit) []edit {
	was := *spot
	out := slices.Concat(l...)
	for i := range out {
		out[i].undo = func() { *spot = was }
	}
	return out
}

func one(what string, do func()) []edit { return []edit{{what: what, do: do}} }

func nameEdits(s *string) []edit {
	var out []edit
	for _, to := range []string{"", "x", "xx", "1", "1.5", "target", "x y", " "} {
		out = append(out, edit{what: "name " + to, do: func() { *s = to }}, edit{what: "name and " + to, do: func() { *s += to }})
	}
	return out
}

func opEdits(op *uint8, most int) []edit {
	out := one("op 255", func() { *op = 255 })
	for to := range most + 2 {
		out = append(out, edit{what: "op " + strconv.Itoa(to), do: func() { *op = uint8(to) }})
	}
	return out
}

// listEdits change a list's length, what it has, and the order of this.
func listEdits[T any](what string, l *[]T, more ...T) []edit {
	out := slices.Concat(
		one(what+" nil", func() { *l = nil }),
		one(what+" empty", func() { *l = []T{} }),
		one(what+" shorter", func() { *l = (*l)[:max(len(*l)-1, 0)] }),
		one(what+" without the first", func() { *l = (*l)[min(len(*l), 1):] }),
		one(what+" twice", func() { *l = slices.Concat(*l, *l) }),
		one(what+" backwards", func() {
			*l = slices.Clone(*l)
			slices.Reverse(*l)
		}),
	)
	for i, x := range more {
		out = append(out,
			edit{what: what + " longer by " + strconv.Itoa(i), do: func() { *l = slices.Concat(*l, []T{x}) }},
			edit{what: what + " behind " + strconv.Itoa(i), do: func() { *l = slices.Concat([]T{x}, *l) }},
			edit{what: what + " is " + strconv.Itoa(i), do: func() { *l = []T{x} }})
	}
	return out
}

func exprEdits(l []api.Expr) []edit {
	var out []edit
	for i := range l {
		e := &l[i]
		out = append(out, of(e,
			one("place", func() { e.At = 1 << 40 }),
			one("zero", func() { *e = api.Expr{} }),
			opEdits(&e.Op, int(api.ExGe)),
			nameEdits(&e.Name),
			listEdits("kids", &e.Kids, num("1"), both(api.ExLt, num("1"), name("x"))),
		)...)
		out = append(out, exprEdits(e.Kids)...)
	}
	return out
}

func stmtEdits(l []api.Stmt) []edit {
	var out []edit
	for i := range l {
		s := &l[i]
		out = append(out, of(s,
			one("place", func() { s.At = -1 }),
			one("zero", func() { *s = api.Stmt{} }),
			one("body and else", func() { s.Body, s.Else = s.Else, s.Body }),
			opEdits(&s.Op, int(api.StBlock)),
			nameEdits(&s.Name),
			listEdits("kids", &s.Kids, num("1"), both(api.ExLt, num("1"), name("x"))),
			listEdits("body", &s.Body, group(), api.Stmt{}),
			listEdits("else", &s.Else, add(num("1"))),
		)...)
		out = slices.Concat(out, exprEdits(s.Kids), stmtEdits(s.Body), stmtEdits(s.Else))
	}
	return out
}

func declEdits(l []api.Decl) []edit {
	var out []edit
	for i := range l {
		d := &l[i]
		out = append(out, of(d,
			one("place", func() { d.At = 0 }),
			one("zero", func() { *d = api.Decl{} }),
			one("bounds", func() { d.Lower, d.Upper = d.Upper, d.Lower }),
			one("lower and init", func() { d.Lower, d.Init = d.Init, d.Lower }),
			opEdits(&d.Type, int(api.TyReals)),
			nameEdits(&d.Name),
		)...)
		for _, list := range []*[]api.Expr{&d.Size, &d.Lower, &d.Upper, &d.Init} {
			out = append(out, of(list, listEdits("list", list, num("2"), both(api.ExEq, num("1"), name("x"))))...)
			out = append(out, exprEdits(*list)...)
		}
	}
	return out
}

func progEdits(p *api.Prog) []edit {
	var out []edit
	for i := range p.Blocks {
		b := &p.Blocks[i]
		out = append(out, of(p,
			one("is", func() { b.Is = !b.Is }),
			one("nothing", func() { *b = api.Block{} }),
			one("alone", func() { *p = in(i, b.Decls, b.Stmts) }),
			one("swapped", func() { *b, p.Blocks[5-i] = p.Blocks[5-i], *b }),
			listEdits("declarations", &b.Decls, plain(api.TyInts, "k"), plain(api.TyReal, "r")),
			listEdits("statements", &b.Stmts, group(), add(num("1"))),
		)...)
		out = slices.Concat(out, declEdits(b.Decls), stmtEdits(b.Stmts))
	}
	return out
}

// P12.1 to P12.4: each single change in programs that are valid, at all depths: what is valid then, how it is written, how many there are, and whether it is the same.
func TestEdits(t *testing.T) {
	m := newModel()
	small := inModel(choice(both(api.ExNe, neg(name("a")), index("b", call("f"))), stmts(loop("i", num("1"), num("2"), dist("d", name("i"), sum(num("1"), num("2"))))), stmts(group(set("c", num("0"), num("1"))))))
	for _, p := range []api.Prog{ordinary(), small, {}} {
		m.check(t, p)
		q := copyProg(p)
		edits := progEdits(&q)
		if len(edits) < 6*26 {
			t.Fatal(len(edits))
		}
		for i, e := range edits {
			e.do()
			what := "edit " + strconv.Itoa(i) + ": " + e.what
			checkSame(t, what, p, q)
			m.check(t, q)
			if t.Failed() {
				t.Fatal(what)
			}
			e.undo()
		}
		checkSame(t, "all taken back", p, q)
	}
}

// The same of expressions alone.
func TestEditsOfExpr(t *testing.T) {
	m := newModel()
	for _, a := range exprs(
		num("1.5"), name("x"), call("f"), times(sum(name("a"), index("b", neg(num("1")))), call("f", neg(less(num("1"), num("2"))), by(name("c"), name("d")))),
		both(api.ExLe, name("a"), num("1")), api.Expr{}, ex(200, "?", num(""), api.Expr{Kids: exprs(name("a"))}),
	) {
		m.checkExpr(t, a)
		l := copyExprs(exprs(a))
		for _, e := range exprEdits(l) {
			e.do()
			checkSameExpr(t, e.what, a, l[0])
			m.checkExpr(t, l[0])
			if t.Failed() {
				t.Fatal(e.what)
			}
			e.undo()
		}
	}
}
