package parse_test

import (
	"slices"
	"strings"
	"testing"

	"stepstone/api"
	"stepstone/parse"
	"stepstone/token"
	"stepstone/tree"
)

// The chapter's grammar. (Sums are divided by commas in Sums, and there is one at least in Some.)
const chapter = `
Program -> Data Made Pars Turned Model Generated
Data -> | data { Bares }
Made -> | transformed data { Decls Stmts }
Pars -> | parameters { Bares }
Turned -> | transformed parameters { Decls Stmts }
Model -> | model { Stmts }
Generated -> | generated quantities { Decls Stmts }
Bares -> | Bares Bare
Bare -> int Bounds NAME ; | real Bounds NAME ; | vector Bounds [ Sum ] NAME ; | array [ Sum ] int Bounds NAME ; | array [ Sum ] real Bounds NAME ;
Decls -> | Decls Decl
Decl -> int Bounds NAME First ; | real Bounds NAME First ; | vector Bounds [ Sum ] NAME First ; | array [ Sum ] int Bounds NAME ; | array [ Sum ] real Bounds NAME ;
Bounds -> | < lower = Sum > | < upper = Sum > | < lower = Sum , upper = Sum >
First -> | = Sum
Stmts -> | Stmts Stmt
Stmt -> NAME = Sum ; | NAME [ Sum ] = Sum ; | target += Sum ; | Sum ~ NAME ( Sums ) ; | for ( NAME in Sum : Sum ) { Stmts } | if ( Compare ) { Stmts } | if ( Compare ) { Stmts } else { Stmts } | { Stmts }
Compare -> Sum == Sum | Sum != Sum | Sum < Sum | Sum <= Sum | Sum > Sum | Sum >= Sum
Sums -> | Some
Some -> Sum | Some , Sum
Sum -> Product | Sum + Product | Sum - Product
Product -> Unary | Product * Unary | Product / Unary
Unary -> - Unary | NUMBER | NAME | NAME [ Sum ] | NAME ( Sums ) | ( Sum )
`

// What a tree is made of what was read.

func exprOf(n *node) api.Expr {
	var e api.Expr
	switch n.form() {
	case "Product", "Unary":
		e = exprOf(n.kids[0])
	case "( Sum )":
		e = exprOf(n.kids[1])
	case "NUMBER":
		e = api.Expr{Op: api.ExNum, Name: n.kids[0].token.Text}
	case "NAME":
		e = api.Expr{Op: api.ExName, Name: n.kids[0].token.Text}
	case "NAME [ Sum ]":
		e = api.Expr{Op: api.ExIndex, Name: n.kids[0].token.Text, Kids: exprsOf(n.kids[2])}
	case "NAME ( Sums )":
		e = api.Expr{Op: api.ExCall, Name: n.kids[0].token.Text, Kids: exprsOf(n.kids[2])}
	case "- Unary":
		e = api.Expr{Op: api.ExNeg, Kids: exprsOf(n.kids[1])}
	default:
		op := map[string]uint8{"+": api.ExAdd, "-": api.ExSub, "*": api.ExMul, "/": api.ExDiv, "==": api.ExEq, "!=": api.ExNe, "<": api.ExLt, "<=": api.ExLe, ">": api.ExGt, ">=": api.ExGe}[n.kids[1].token.Text]
		e = api.Expr{Op: op, Kids: append(exprsOf(n.kids[0]), exprsOf(n.kids[2])...)}
	}
	e.At = n.at()
	return e
}

// exprsOf are the expressions of a list, or the only one.
func exprsOf(n *node) []api.Expr {
	switch n.left {
	case "Sums", "First":
		if len(n.kids) == 0 {
			return nil
		}
		return exprsOf(n.kids[len(n.kids)-1])
	case "Some":
		if len(n.kids) == 3 {
			return append(exprsOf(n.kids[0]), exprOf(n.kids[2]))
		}
		return exprsOf(n.kids[0])
	}
	return []api.Expr{exprOf(n)}
}

func stmtsOf(n *node) []api.Stmt {
	if len(n.kids) == 0 {
		return nil
	}
	return append(stmtsOf(n.kids[0]), stmtOf(n.kids[1]))
}

func stmtOf(n *node) api.Stmt {
	s := api.Stmt{At: n.at()}
	k := n.kids
	switch n.form() {
	case "NAME = Sum ;":
		s.Op, s.Name, s.Kids = api.StSet, k[0].token.Text, exprsOf(k[2])
	case "NAME [ Sum ] = Sum ;":
		s.Op, s.Name, s.Kids = api.StSet, k[0].token.Text, append(exprsOf(k[2]), exprsOf(k[5])...)
	case "target += Sum ;":
		s.Op, s.Kids = api.StAdd, exprsOf(k[2])
	case "Sum ~ NAME ( Sums ) ;":
		s.Op, s.Name, s.Kids = api.StDist, k[2].token.Text, append(exprsOf(k[0]), exprsOf(k[4])...)
	case "for ( NAME in Sum : Sum ) { Stmts }":
		s.Op, s.Name, s.Kids, s.Body = api.StFor, k[2].token.Text, append(exprsOf(k[4]), exprsOf(k[6])...), stmtsOf(k[9])
	case "if ( Compare ) { Stmts }":
		s.Op, s.Kids, s.Body = api.StIf, exprsOf(k[2]), stmtsOf(k[5])
	case "if ( Compare ) { Stmts } else { Stmts }":
		s.Op, s.Kids, s.Body, s.Else = api.StIf, exprsOf(k[2]), stmtsOf(k[5]), stmtsOf(k[9])
	case "{ Stmts }":
		s.Op, s.Body = api.StBlock, stmtsOf(k[1])
	}
	return s
}

func declsOf(n *node) []api.Decl {
	if len(n.kids) == 0 {
		return nil
	}
	return append(declsOf(n.kids[0]), declOf(n.kids[1]))
}

func declOf(n *node) api.Decl {
	d := api.Decl{At: n.at()}
	scalars := map[string]uint8{"int": api.TyInt, "real": api.TyReal, "vector": api.TyVec}
	for i, k := range n.kids {
		switch {
		case scalars[k.token.Text] > 0:
			d.Type += scalars[k.token.Text]
		case k.token.Text == "array":
			d.Type += api.TyInts - api.TyInt
		case k.left == "Sum":
			d.Size = exprsOf(k)
		case k.left == "First":
			d.Init = exprsOf(k)
		case n.right[i] == "NAME":
			d.Name = k.token.Text
		}
		for j, b := range k.kids {
			switch {
			case b.token.Text == "lower":
				d.Lower = exprsOf(k.kids[j+2])
			case b.token.Text == "upper":
				d.Upper = exprsOf(k.kids[j+2])
			}
		}
	}
	return d
}

func progOf(n *node) api.Prog {
	var p api.Prog
	for i, b := range n.kids {
		p.Blocks[i].Is = len(b.kids) > 0
		for _, k := range b.kids {
			switch k.left {
			case "Bares", "Decls":
				p.Blocks[i].Decls = declsOf(k)
			case "Stmts":
				p.Blocks[i].Stmts = stmtsOf(k)
			}
		}
	}
	return p
}

// opened counts what is open at tokens, by the tokens side by side alone.
type opened struct {
	stack []string
	last  api.Token
}

// isEnd tells whether an expression can end with a token.
func isEnd(t api.Token) bool {
	return t.Kind == api.TkNumber || t.Text == ")" || t.Text == "]" || isToken("NAME", t)
}

func (o opened) after(t api.Token) opened {
	stack := slices.Clone(o.stack)
	drop := func(l ...string) {
		for len(stack) > 0 && slices.Contains(l, stack[len(stack)-1]) {
			stack = stack[:len(stack)-1]
		}
	}
	if isEnd(o.last) && t.Text != "(" && t.Text != "[" {
		drop("-")
	}
	switch t.Text {
	case ")", "]", "}":
		stack = stack[:len(stack)-1]
	case "(", "[", "{":
		stack = append(stack, t.Text)
	case "-":
		if !isEnd(o.last) {
			stack = append(stack, "-")
		}
	}
	return opened{stack, t}
}

// model reads sources token by token.
type model struct{ *grammar }

func newModel() *model { return &model{newGrammar(chapter)} }

// read is what a source is: nothing but a fault, or what its tokens are read as.
func (m *model) read(s, start string) (*node, api.Fault) {
	l, f := token.Read(s)
	if f.E != api.OK {
		return nil, f
	}
	c := newChart(m.grammar, start)
	var o opened
	for _, t := range l {
		if f := o.fault(c, t); f.E != api.OK {
			return nil, f
		}
		o = o.after(t)
	}
	if n := c.whole(); n != nil {
		return n, api.Fault{}
	}
	return nil, api.Fault{E: api.ErrSyntax, At: len(s)}
}

// fault is that of a token, which otherwise is taken.
func (o opened) fault(c *chart, t api.Token) api.Fault {
	switch {
	case !c.next(t):
		return api.Fault{E: api.ErrSyntax, At: t.At}
	case t.Kind == api.TkNumber && len(t.Text) > 400:
		return api.Fault{E: api.ErrLong, At: t.At}
	case len(o.after(t).stack) > 64:
		return api.Fault{E: api.ErrDepth, At: t.At}
	}
	return api.Fault{}
}

// call is one of both functions, with what is known of its trees.
type call[T any] struct {
	name, start string
	read        func(string) (T, api.Fault)
	of          func(*node) T
	told        func(T) string
	write       func(T) (string, api.Errno)
	same        func(a, b T) bool
}

func parseCall() call[api.Prog] {
	return call[api.Prog]{"Parse", "Program", parse.Parse, progOf, toldProg, tree.Write, tree.Same}
}

func exprCall() call[api.Expr] {
	return call[api.Expr]{"Expr", "Sum", parse.Expr, exprOf, toldExpr, tree.WriteExpr, tree.SameExpr}
}

// check holds Parse against the model, and against what follows. It returns the fault.
func (m *model) check(t *testing.T, s string) api.Fault {
	t.Helper()
	return parseCall().check(t, m, s)
}

// checkExpr is the same of Expr.
func (m *model) checkExpr(t *testing.T, s string) api.Fault {
	t.Helper()
	return exprCall().check(t, m, s)
}

func (c call[T]) check(t *testing.T, m *model, s string) api.Fault {
	t.Helper()
	n, wantFault := m.read(s, c.start)
	var want T
	if n != nil {
		want = c.of(n)
	}
	got, f := c.read(s)
	if f != wantFault || !isSame(got, want) {
		t.Errorf("%s(%s) = %s, %s, want %s, %s", c.name, shown(s), shown(c.told(got)), shownFault(f), shown(c.told(want)), shownFault(wantFault))
		return f
	}
	c.follows(t, s, f)
	if f.E == api.OK {
		c.writtenAgain(t, s, got)
	}
	return f
}

// fails checks that a source has an error where a ^ is in it.
func (c call[T]) fails(t *testing.T, e api.Errno, s string) {
	t.Helper()
	s, at := marked(t, s)
	x, f := c.read(s)
	if f != (api.Fault{E: e, At: at}) || !isZero(x) {
		t.Errorf("%s(%s) = %s, %s, want error %d at %d", c.name, shown(s), shown(c.told(x)), shownFault(f), e, at)
	}
	c.follows(t, s, f)
}

// follows checks P13.3: the source ahead of a token that can't be there has no fault, or the one that it ends too early.
func (c call[T]) follows(t *testing.T, s string, f api.Fault) {
	t.Helper()
	if f.E != api.ErrSyntax || f.At >= len(s) {
		return
	}
	if _, g := c.read(s[:f.At]); g != (api.Fault{}) && g != (api.Fault{E: api.ErrSyntax, At: f.At}) {
		t.Errorf("%s has %s, but ahead of this there is %s", shown(s), shownFault(f), shownFault(g))
	}
}

// writtenAgain checks P13.2: what a tree is written as is read as the same one, and written in the same way.
func (c call[T]) writtenAgain(t *testing.T, s string, x T) {
	t.Helper()
	w, err := c.write(x)
	if err != api.OK {
		t.Errorf("%s is read as a tree that is not valid", shown(s))
		return
	}
	if len(w) > 20000 {
		return
	}
	y, f := c.read(w)
	if f != (api.Fault{}) || !c.same(x, y) {
		t.Errorf("%s is written as %s, which is read as another tree, %s", shown(s), shown(w), shownFault(f))
	}
	if v, _ := c.write(y); v != w {
		t.Errorf("%s is written as %s, and again as %s", shown(s), shown(w), shown(v))
	}
	if strings.Contains(w, "else {\n}") {
		t.Errorf("%s has an Else without statements", shown(s))
	}
}
