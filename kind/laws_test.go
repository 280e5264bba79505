package kind_test

import (
	"math/rand/v2"
	"slices"
	"testing"

	"stepstone/api"
	"stepstone/kind"
	"stepstone/tree"
)

// beginnings are a program cut off behind each declaration and each statement, also within loops and branches.
func beginnings(p api.Prog) []api.Prog {
	out := []api.Prog{{}}
	var before api.Prog
	for i, b := range p.Blocks {
		if !b.Is {
			continue
		}
		q := before
		for j := range len(b.Decls) + 1 {
			q.Blocks[i] = api.Block{Is: true, Decls: b.Decls[:j]}
			out = append(out, q)
		}
		for _, l := range stmtBeginnings(b.Stmts) {
			q.Blocks[i].Stmts = l
			out = append(out, q)
		}
		before.Blocks[i] = b
	}
	return out
}

func stmtBeginnings(l []api.Stmt) [][]api.Stmt {
	var out [][]api.Stmt
	for i, s := range l {
		cut := s
		cut.Else = nil
		for _, body := range stmtBeginnings(s.Body) {
			cut.Body = body
			out = append(out, append(slices.Clone(l[:i]), cut))
		}
		cut.Body = s.Body
		for _, other := range stmtBeginnings(s.Else) {
			cut.Else = other
			out = append(out, append(slices.Clone(l[:i]), cut))
		}
		out = append(out, l[:i+1])
	}
	return append([][]api.Stmt{nil}, out...)
}

// begins checks P15.5: what a program's beginnings have is its fault, or none, and the first ones of its variables.
func begins(t *testing.T, p api.Prog) {
	t.Helper()
	f, vars := kind.Check(p), kind.Vars(p)
	if f.E == api.ErrTree {
		return
	}
	for _, q := range beginnings(p) {
		g, l := kind.Check(q), kind.Vars(q)
		if g != f && g != (api.Fault{}) || f.E == api.OK && (len(l) > len(vars) || !slices.Equal(l, vars[:len(l)])) {
			t.Errorf("%s has %s and %v, but it begins with %s, which has %s and %v", shownTree(p), shownFault(f), vars, shownTree(q), shownFault(g), l)
		}
	}
}

// seen is what is known of a program's names while one goes through it: which depend on parameters.
type seen struct {
	t    *testing.T
	pars map[string]int
	vars []api.Var
}

// hangs tells whether a name that depends on parameters is in an expression, but for what is in a size.
func (s *seen) hangs(e api.Expr) bool {
	if e.Op == api.ExCall && e.Name == "size" {
		return false
	}
	return (e.Op == api.ExName || e.Op == api.ExIndex) && s.pars[e.Name] > 0 || slices.ContainsFunc(e.Kids, s.hangs)
}

// chosen checks P15.4 of expressions by which something is chosen, counted or sized.
func (s *seen) chosen(l ...api.Expr) {
	for _, e := range l {
		if k, f := kind.Of(e, s.vars); s.hangs(e) || k.Par || f.E != api.OK {
			s.t.Errorf("%s depends on parameters", shownExpr(e))
		}
		s.indices(e)
	}
}

// indices does so for those in an expression, at all depths.
func (s *seen) indices(l ...api.Expr) {
	for _, e := range l {
		if e.Op == api.ExIndex {
			s.chosen(e.Kids...)
		}
		s.indices(e.Kids...)
	}
}

func (s *seen) stmts(l []api.Stmt) {
	for _, st := range l {
		n := len(s.vars)
		switch st.Op {
		case api.StSet:
			s.chosen(st.Kids[:len(st.Kids)-1]...)
		case api.StFor:
			s.chosen(st.Kids...)
			s.vars = append(s.vars, api.Var{Name: st.Name, Type: api.TyInt, Block: -1})
		case api.StIf:
			s.chosen(st.Kids[0].Kids...)
		}
		s.indices(st.Kids...)
		s.stmts(st.Body)
		s.stmts(st.Else)
		s.vars = s.vars[:n]
	}
}

// follows checks what is promised of any program that is valid.
func follows(t *testing.T, p api.Prog) {
	t.Helper()
	begins(t, p)
	s := &seen{t: t, pars: map[string]int{}}
	var want []api.Var
	for i, b := range p.Blocks {
		for _, d := range b.Decls {
			s.chosen(slices.Concat(d.Size, d.Lower, d.Upper)...)
			s.indices(d.Init...)
			v := api.Var{Name: d.Name, Type: d.Type, Block: i, Par: i >= api.BkPars}
			if s.vars, want = append(s.vars, v), append(want, v); v.Par {
				s.pars[d.Name]++
			}
		}
		s.stmts(b.Stmts)
	}
	if got := kind.Vars(p); !slices.Equal(got, want) {
		t.Errorf("Vars(%s) = %v, want %v", shownTree(p), got, want)
	}
	if t.Failed() {
		t.Log(shownTree(p))
	}
}

// P15.1 to P15.5: the ordinary program, and each single change in it.
func TestEdits(t *testing.T) {
	p := placed(parsed(t, ordinaryProgram()))
	passes(t, ordinaryProgram())
	follows(t, p)
	met := map[api.Errno]int{}
	edits := newEditor("n", "r", "v", "k", "y", "mu", "u", "t", "p", "q", "m", "w", "j", "z", "a", "b", "g", "x").prog(&p)
	for i, e := range edits {
		e.do()
		f := check(t, p)
		met[f.E]++
		if i%200 == 0 {
			begins(t, p)
		}
		if f.E == api.OK && i%30 == 0 {
			follows(t, p)
		}
		if t.Failed() {
			t.Fatal(e.what)
		}
		e.undo()
	}
	if f := check(t, p); f.E != api.OK || len(edits) < 20000 {
		t.Errorf("%d edits, then %s", len(edits), shownFault(f))
	}
	for e, least := range map[api.Errno]int{api.OK: 2000, api.ErrTree: 5000, api.ErrName: 1000, api.ErrDouble: 100, api.ErrType: 5000, api.ErrLevel: 20} {
		if met[e] < least {
			t.Errorf("error %d is met %d times", e, met[e])
		}
	}
}

// P15.1 to P15.5: random programs that are valid.
func TestAnyProgram(t *testing.T) {
	m := &maker{g: rand.New(rand.NewPCG(15, 1))}
	most := 0
	for range 500 {
		p := m.prog()
		if f := check(t, p); f.E != api.OK {
			t.Fatalf("%s: %s", shownTree(p), shownFault(f))
		}
		follows(t, p)
		if most = max(most, tree.Nodes(p)); t.Failed() {
			t.FailNow()
		}
	}
	if most < 500 {
		t.Errorf("the greatest program has %d parts", most)
	}
}

// P15.1 to P15.5: random programs with one or two random changes.
func TestAnyEdit(t *testing.T) {
	g := rand.New(rand.NewPCG(15, 2))
	m := &maker{g: g}
	met := map[api.Errno]int{}
	for range 100 {
		p := m.prog()
		var variables []string
		for _, v := range kind.Vars(p) {
			variables = append(variables, v.Name)
		}
		g.Shuffle(len(variables), func(i, j int) { variables[i], variables[j] = variables[j], variables[i] })
		edits := newEditor(variables[:min(len(variables), 8)]...).prog(&p)
		for range 200 {
			first, second := oneOf(g, edits...), oneOf(g, edits...)
			first.do()
			if g.IntN(4) == 0 {
				second.do()
			}
			f := check(t, p)
			if met[f.E]++; g.IntN(20) == 0 {
				begins(t, p)
			}
			if t.Failed() {
				t.Fatal(first.what, second.what)
			}
			second.undo()
			first.undo()
		}
	}
	for e, least := range map[api.Errno]int{api.OK: 1000, api.ErrTree: 1000, api.ErrName: 500, api.ErrDouble: 20, api.ErrType: 500, api.ErrLevel: 5} {
		if met[e] < least {
			t.Errorf("error %d is met %d times", e, met[e])
		}
	}
}

// P15.1: random expressions.
func TestAnyExpr(t *testing.T) {
	g := rand.New(rand.NewPCG(15, 3))
	m := &maker{g: g, vars: some()}
	met := map[api.Errno]int{}
	for i := range 100000 {
		e := anyExpr(g, g.IntN(4))
		if i%4 == 0 {
			e, _ = m.expr(want{ty: oneOf(g, types()...), isFixed: g.IntN(2) == 0, depth: g.IntN(8)})
		}
		_, f := checkExpr(t, placedExpr(e), some())
		if met[f.E]++; t.Failed() {
			return
		}
	}
	for e, least := range map[api.Errno]int{api.OK: 10000, api.ErrName: 1000, api.ErrType: 10000, api.ErrLevel: 50} {
		if met[e] < least {
			t.Errorf("error %d is met %d times", e, met[e])
		}
	}
}
