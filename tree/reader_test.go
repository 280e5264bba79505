package tree_test

import (
	"slices"
	"testing"

	"stepstone/api"
	"stepstone/token"
	"stepstone/tree"
)

// reader makes trees of tokens again. It knows what is written, and no more: where it finds something else, it panics with where it is.
type reader struct {
	l  []api.Token
	at int
}

func (r *reader) peek() string {
	if r.at < len(r.l) {
		return r.l[r.at].Text
	}
	return ""
}

func (r *reader) next() api.Token {
	if r.at >= len(r.l) {
		panic(r.at)
	}
	r.at++
	return r.l[r.at-1]
}

// is takes a token if it is this one.
func (r *reader) is(s string) bool {
	if r.peek() != s {
		return false
	}
	r.at++
	return true
}

func (r *reader) need(l ...string) {
	for _, s := range l {
		if !r.is(s) {
			panic(r.at)
		}
	}
}

func (r *reader) name() string {
	t := r.next()
	if t.Kind != api.TkName {
		panic(r.at - 1)
	}
	return t.Text
}

func (r *reader) sum() api.Expr { return r.chain(operations()[:2], r.product) }

func (r *reader) product() api.Expr { return r.chain(operations()[2:], r.unary) }

// chain reads kids and the operations between them, from the left on.
func (r *reader) chain(ops []uint8, kid func() api.Expr) api.Expr {
	a := kid()
	for {
		i := slices.IndexFunc(ops, func(op uint8) bool { return " "+r.peek()+" " == signOf(op) })
		if i < 0 {
			return a
		}
		r.next()
		a = both(ops[i], a, kid())
	}
}

func (r *reader) unary() api.Expr {
	if r.is("-") {
		return neg(r.unary())
	}
	if r.is("(") {
		e := r.sum()
		r.need(")")
		return e
	}
	if r.at < len(r.l) && r.l[r.at].Kind == api.TkNumber {
		return num(r.next().Text)
	}
	s := r.name()
	switch {
	case r.is("["):
		i := r.sum()
		r.need("]")
		return index(s, i)
	case r.is("("):
		return call(s, r.list()...)
	}
	return name(s)
}

// list reads expressions up to the bracket behind them.
func (r *reader) list() []api.Expr {
	if r.is(")") {
		return nil
	}
	out := exprs(r.sum())
	for r.is(",") {
		out = append(out, r.sum())
	}
	r.need(")")
	return out
}

// body reads statements up to the bracket behind them.
func (r *reader) body() []api.Stmt {
	var out []api.Stmt
	for !r.is("}") {
		out = append(out, r.stmt())
	}
	return out
}

func (r *reader) stmt() api.Stmt {
	switch {
	case r.is("{"):
		return group(r.body()...)
	case r.is("target"):
		r.need("+=")
		a := add(r.sum())
		r.need(";")
		return a
	case r.is("for"):
		r.need("(")
		s := r.name()
		r.need("in")
		from := r.sum()
		r.need(":")
		to := r.sum()
		r.need(")", "{")
		return loop(s, from, to, r.body()...)
	case r.is("if"):
		r.need("(")
		a := r.sum()
		sign := r.next().Text
		i := slices.IndexFunc(comparisons(), func(op uint8) bool { return " "+sign+" " == signOf(op) })
		c := both(comparisons()[i], a, r.sum())
		r.need(")", "{")
		body := r.body()
		if r.is("else") {
			r.need("{")
			return choice(c, body, r.body())
		}
		return choice(c, body, nil)
	}
	return r.simple()
}

// simple reads a StSet or a StDist.
func (r *reader) simple() api.Stmt {
	e := r.sum()
	if r.is("~") {
		s := r.name()
		r.need("(")
		a := dist(s, append(exprs(e), r.list()...)...)
		r.need(";")
		return a
	}
	r.need("=")
	a := set(e.Name, append(e.Kids, r.sum())...)
	r.need(";")
	return a
}

func (r *reader) decls() []api.Decl {
	scalars := map[string]uint8{"int": api.TyInt, "real": api.TyReal, "vector": api.TyVec}
	var out []api.Decl
	for {
		d := api.Decl{Type: scalars[r.peek()]}
		if r.is("array") {
			d.Size = r.size()
			d.Type = scalars[r.peek()] + api.TyInts - api.TyInt
		}
		if d.Type == 0 {
			return out
		}
		r.next()
		r.bounds(&d)
		if d.Type == api.TyVec {
			d.Size = r.size()
		}
		d.Name = r.name()
		if r.is("=") {
			d.Init = exprs(r.sum())
		}
		r.need(";")
		out = append(out, d)
	}
}

func (r *reader) size() []api.Expr {
	r.need("[")
	e := r.sum()
	r.need("]")
	return exprs(e)
}

func (r *reader) bounds(d *api.Decl) {
	if !r.is("<") {
		return
	}
	if r.is("lower") {
		r.need("=")
		d.Lower = exprs(r.sum())
		if r.is(">") {
			return
		}
		r.need(",")
	}
	r.need("upper", "=")
	d.Upper = exprs(r.sum())
	r.need(">")
}

func (r *reader) prog() api.Prog {
	words := [][]string{{"data"}, {"transformed", "data"}, {"parameters"}, {"transformed", "parameters"}, {"model"}, {"generated", "quantities"}}
	var p api.Prog
	for i, title := range words {
		if r.at+len(title) > len(r.l) || title[0] != r.peek() || title[len(title)-1] != r.l[r.at+len(title)-1].Text {
			continue
		}
		r.need(append(title, "{")...)
		p.Blocks[i].Is = true
		p.Blocks[i].Decls = r.decls()
		p.Blocks[i].Stmts = r.body()
	}
	return p
}

// tokens reads what is written; false if it is longer than layer 11 reads. There must be one space, or one line feed behind {, } and ;, between a token and the next one.
func tokens(t *testing.T, s string) ([]api.Token, bool) {
	t.Helper()
	if len(s) > 20000 {
		return nil, false
	}
	l, f := token.Read(s)
	if f.E == api.ErrFull {
		return nil, false
	}
	if f != (api.Fault{}) {
		t.Errorf("%s can't be read: error %d at %d", shown(s), f.E, f.At)
		return nil, false
	}
	at := 0
	for i, x := range l {
		gap := " "
		switch {
		case x.Text == "{" || x.Text == "}" || x.Text == ";":
			gap = "\n"
		case i == len(l)-1:
			gap = ""
		}
		if x.At != at || s[at+len(x.Text):][:len(gap)] != gap {
			t.Errorf("token %d, %s, of %s: what is beside it is wrong", i, x.Text, shown(s))
			return nil, false
		}
		at += len(x.Text) + len(gap)
	}
	if at != len(s) {
		t.Errorf("%s has something behind its last token", shown(s))
	}
	return l, true
}

// readsBack checks that what is written is read as the tree that it was written from.
func readsBack(t *testing.T, s string, p api.Prog) {
	t.Helper()
	l, ok := tokens(t, s)
	if !ok {
		return
	}
	defer func() {
		if at := recover(); at != nil {
			t.Errorf("%s is not as it is to be at token %v", shown(s), at)
		}
	}()
	r := &reader{l: l}
	if q := r.prog(); r.at != len(l) || !areSame(p, q) || !tree.Same(p, q) {
		t.Errorf("%s is read as another program", shown(s))
	}
}

func readsBackExpr(t *testing.T, s string, e api.Expr) {
	t.Helper()
	l, ok := tokens(t, s)
	if !ok {
		return
	}
	defer func() {
		if at := recover(); at != nil {
			t.Errorf("%s is not as it is to be at token %v", shown(s), at)
		}
	}()
	r := &reader{l: l}
	if a := r.sum(); r.at != len(l) || !areSameExpr(e, a) || !tree.SameExpr(e, a) {
		t.Errorf("%s is read as another expression", shown(s))
	}
}
