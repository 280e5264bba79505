package tree_test

import (
	"reflect"
	"regexp"
	"slices"
	"strings"
	"testing"

	"stepstone/api"
	"stepstone/tree"
)

// model is the chapter's words in another way: calls within calls, names by expressions that the library matches.
type model struct{ name, number *regexp.Regexp }

func newModel() *model {
	return &model{regexp.MustCompile(`^[[:alpha:]]\w*$`), regexp.MustCompile(`^\d+(?:\.\d+)?(?:e[+-]?\d{1,4})?$`)}
}

func (m *model) isName(s string) bool {
	return len(s) <= 20000 && m.name.MatchString(s) && !slices.Contains(taken(), s)
}

func (m *model) exprs(l []api.Expr, least, most int) bool {
	return len(l) >= least && len(l) <= most && !slices.ContainsFunc(l, func(e api.Expr) bool { return !m.expr(e) })
}

func (m *model) expr(e api.Expr) bool {
	switch e.Op {
	case api.ExNum:
		return len(e.Name) <= 20000 && m.number.MatchString(e.Name) && len(e.Kids) == 0
	case api.ExName:
		return m.isName(e.Name) && len(e.Kids) == 0
	case api.ExIndex:
		return m.isName(e.Name) && m.exprs(e.Kids, 1, 1)
	case api.ExCall:
		return m.isName(e.Name) && m.exprs(e.Kids, 0, len(e.Kids))
	case api.ExNeg:
		return e.Name == "" && m.exprs(e.Kids, 1, 1)
	case api.ExAdd, api.ExSub, api.ExMul, api.ExDiv:
		return e.Name == "" && m.exprs(e.Kids, 2, 2)
	}
	return false
}

func (m *model) comparison(e api.Expr) bool {
	return slices.Contains(comparisons(), e.Op) && e.Name == "" && m.exprs(e.Kids, 2, 2)
}

func (m *model) stmts(l []api.Stmt) bool {
	return !slices.ContainsFunc(l, func(s api.Stmt) bool { return !m.stmt(s) })
}

func (m *model) stmt(s api.Stmt) bool {
	lists := m.stmts(s.Body) && m.stmts(s.Else)
	if s.Op != api.StIf && len(s.Else) > 0 || s.Op < api.StFor && len(s.Body) > 0 {
		return false
	}
	switch s.Op {
	case api.StSet:
		return m.isName(s.Name) && m.exprs(s.Kids, 1, 2)
	case api.StAdd:
		return s.Name == "" && m.exprs(s.Kids, 1, 1)
	case api.StDist:
		return m.isName(s.Name) && m.exprs(s.Kids, 1, len(s.Kids))
	case api.StFor:
		return lists && m.isName(s.Name) && m.exprs(s.Kids, 2, 2)
	case api.StIf:
		return lists && s.Name == "" && len(s.Kids) == 1 && m.comparison(s.Kids[0])
	case api.StBlock:
		return lists && s.Name == "" && len(s.Kids) == 0
	}
	return false
}

func (m *model) decl(d api.Decl, at int) bool {
	sizes := map[uint8]int{api.TyInt: 0, api.TyReal: 0, api.TyVec: 1, api.TyInts: 1, api.TyReals: 1}
	size, is := sizes[d.Type]
	inits := 1
	if d.Type > api.TyVec || at == api.BkData || at == api.BkPars {
		inits = 0
	}
	return is && m.isName(d.Name) && m.exprs(d.Size, size, size) && m.exprs(d.Lower, 0, 1) && m.exprs(d.Upper, 0, 1) && m.exprs(d.Init, 0, inits)
}

func (m *model) prog(p api.Prog) bool {
	for at, b := range p.Blocks {
		none := map[int]int{api.BkData: 1, api.BkPars: 1}
		if (!b.Is || none[at] == 1) && len(b.Stmts) > 0 || (!b.Is || at == api.BkModel) && len(b.Decls) > 0 {
			return false
		}
		if !m.stmts(b.Stmts) || slices.ContainsFunc(b.Decls, func(d api.Decl) bool { return !m.decl(d, at) }) {
			return false
		}
	}
	return true
}

// spaced is a written program or expression with the line feeds as they are to be.
func spaced(s string) string {
	s = strings.Join(strings.Fields(s), " ") + " "
	for _, c := range []string{"{", "}", ";"} {
		s = strings.ReplaceAll(s, c+" ", c+"\n")
	}
	return strings.TrimSuffix(s, " ")
}

// text is how a valid expression is written, but for spaces: each kid is written in brackets if what it is has to be.
func (m *model) text(e api.Expr) string {
	kid := func(i int, when ...[]uint8) string {
		k := e.Kids[i]
		return inBrackets(m.text(k), slices.Contains(slices.Concat(when...), k.Op))
	}
	sums, products := operations()[:2], operations()[2:]
	switch e.Op {
	case api.ExNum, api.ExName:
		return e.Name
	case api.ExIndex:
		return e.Name + " [ " + m.list(e.Kids) + " ]"
	case api.ExCall:
		return e.Name + " ( " + m.list(e.Kids) + " )"
	case api.ExNeg:
		return "- " + kid(0, sums, products)
	case api.ExAdd, api.ExSub:
		return kid(0) + signOf(e.Op) + kid(1, sums)
	case api.ExMul, api.ExDiv:
		return kid(0, sums) + signOf(e.Op) + kid(1, sums, products)
	}
	return kid(0) + signOf(e.Op) + kid(1)
}

func (m *model) list(l []api.Expr) string {
	var out []string
	for _, e := range l {
		out = append(out, m.text(e))
	}
	return strings.Join(out, " , ")
}

func (m *model) stmtsText(l []api.Stmt) string {
	var out []string
	for _, s := range l {
		out = append(out, m.stmtText(s))
	}
	return strings.Join(out, " ")
}

func (m *model) stmtText(s api.Stmt) string {
	k := s.Kids
	switch s.Op {
	case api.StSet:
		if len(k) == 2 {
			return s.Name + " [ " + m.text(k[0]) + " ] = " + m.text(k[1]) + " ;"
		}
		return s.Name + " = " + m.text(k[0]) + " ;"
	case api.StAdd:
		return "target += " + m.text(k[0]) + " ;"
	case api.StDist:
		return m.text(k[0]) + " ~ " + s.Name + " ( " + m.list(k[1:]) + " ) ;"
	}
	body := " { " + m.stmtsText(s.Body) + " }"
	switch {
	case s.Op == api.StFor:
		return "for ( " + s.Name + " in " + m.text(k[0]) + " : " + m.text(k[1]) + " )" + body
	case s.Op == api.StIf && len(s.Else) > 0:
		return "if ( " + m.text(k[0]) + " )" + body + " else { " + m.stmtsText(s.Else) + " }"
	case s.Op == api.StIf:
		return "if ( " + m.text(k[0]) + " )" + body
	}
	return body
}

func (m *model) declText(d api.Decl) string {
	var l []string
	for word, b := range map[string][]api.Expr{"lower": d.Lower, "upper": d.Upper} {
		for _, e := range b {
			l = append(l, word+" = "+m.text(e))
		}
	}
	slices.Sort(l) // lower comes ahead of upper
	bounds, size, first := "", "", ""
	if len(l) > 0 {
		bounds = " < " + strings.Join(l, " , ") + " > "
	}
	for _, e := range d.Size {
		size = " [ " + m.text(e) + " ] "
	}
	for _, e := range d.Init {
		first = " = " + m.text(e)
	}
	form := map[uint8]string{api.TyInt: "int" + bounds, api.TyReal: "real" + bounds, api.TyVec: "vector" + bounds + size, api.TyInts: "array" + size + "int" + bounds, api.TyReals: "array" + size + "real" + bounds}
	return form[d.Type] + " " + d.Name + first + " ; "
}

func (m *model) progText(p api.Prog) string {
	out := ""
	for i, b := range p.Blocks {
		if b.Is {
			out += " " + titles()[i] + " { "
			for _, d := range b.Decls {
				out += m.declText(d)
			}
			out += m.stmtsText(b.Stmts) + " } "
		}
	}
	return out
}

// The same trees without places, with nil where a list is empty: equal by themselves if they are the same.

func bareExprs(l []api.Expr) []api.Expr {
	var out []api.Expr
	for _, e := range l {
		out = append(out, api.Expr{Op: e.Op, Name: e.Name, Kids: bareExprs(e.Kids)})
	}
	return out
}

func bareStmts(l []api.Stmt) []api.Stmt {
	var out []api.Stmt
	for _, s := range l {
		out = append(out, api.Stmt{Op: s.Op, Name: s.Name, Kids: bareExprs(s.Kids), Body: bareStmts(s.Body), Else: bareStmts(s.Else)})
	}
	return out
}

func bareProg(p api.Prog) api.Prog {
	for i, b := range p.Blocks {
		var l []api.Decl
		for _, d := range b.Decls {
			l = append(l, api.Decl{Type: d.Type, Name: d.Name, Size: bareExprs(d.Size), Lower: bareExprs(d.Lower), Upper: bareExprs(d.Upper), Init: bareExprs(d.Init)})
		}
		p.Blocks[i] = api.Block{Is: b.Is, Decls: l, Stmts: bareStmts(b.Stmts)}
	}
	return p
}

func areSame(p, q api.Prog) bool { return reflect.DeepEqual(bareProg(p), bareProg(q)) }

func areSameExpr(a, b api.Expr) bool {
	return reflect.DeepEqual(bareExprs(exprs(a)), bareExprs(exprs(b)))
}

func countExprs(l []api.Expr) int {
	n := len(l)
	for _, e := range l {
		n += countExprs(e.Kids)
	}
	return n
}

func countStmts(l []api.Stmt) int {
	n := len(l)
	for _, s := range l {
		n += countExprs(s.Kids) + countStmts(s.Body) + countStmts(s.Else)
	}
	return n
}

func count(p api.Prog) int {
	n := 0
	for _, b := range p.Blocks {
		n += len(b.Decls) + countStmts(b.Stmts)
		for _, d := range b.Decls {
			n += countExprs(slices.Concat(d.Size, d.Lower, d.Upper, d.Init))
		}
	}
	return n
}

// check holds all that the package says of a program against the model.
func (m *model) check(t *testing.T, p api.Prog) {
	t.Helper()
	if n := tree.Nodes(p); n != count(p) {
		t.Errorf("Nodes = %d, want %d", n, count(p))
	}
	want, err := "", api.ErrTree
	if m.prog(p) {
		want, err = spaced(m.progText(p)), api.OK
	}
	if e := tree.Check(p); e != err {
		t.Errorf("Check = %d, want %d, of %s", e, err, shown(want))
	}
	s, e := tree.Write(p)
	if s != want || e != err {
		t.Errorf("Write = %s, error %d, want %s, error %d", shown(s), e, shown(want), err)
	}
	if err == api.OK {
		readsBack(t, s, p)
	}
}

func (m *model) checkExpr(t *testing.T, e api.Expr) {
	t.Helper()
	want, err := "", api.ErrTree
	if m.expr(e) {
		want, err = spaced(m.text(e)), api.OK
	}
	if got := tree.CheckExpr(e); got != err {
		t.Errorf("CheckExpr = %d, want %d, of %s", got, err, shown(want))
	}
	s, got := tree.WriteExpr(e)
	if s != want || got != err {
		t.Errorf("WriteExpr = %s, error %d, want %s, error %d", shown(s), got, shown(want), err)
	}
	if err == api.OK {
		readsBackExpr(t, s, e)
	}
}

// checkSame holds Same against the model, either way round.
func checkSame(t *testing.T, what string, p, q api.Prog) {
	t.Helper()
	want := areSame(p, q)
	if tree.Same(p, q) != want || tree.Same(q, p) != want {
		t.Errorf("%s: Same = %v, the other way round %v, want %v", what, tree.Same(p, q), tree.Same(q, p), want)
	}
}

func checkSameExpr(t *testing.T, what string, a, b api.Expr) {
	t.Helper()
	want := areSameExpr(a, b)
	if tree.SameExpr(a, b) != want || tree.SameExpr(b, a) != want {
		t.Errorf("%s: SameExpr = %v, the other way round %v, want %v", what, tree.SameExpr(a, b), tree.SameExpr(b, a), want)
	}
}
