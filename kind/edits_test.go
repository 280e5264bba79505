package kind_test

import (
	"slices"

	"stepstone/api"
)

// edit is a change of one thing, whatever comes of it, that can be taken back.
type edit struct {
	what     string
	do, undo func()
}

// of are edits of one thing. They must not change what its lists have, but put others in their place.
func of[T any](spot *T, l ...edit) []edit {
	was := *spot
	for i := range l {
		l[i].undo = func() { *spot = was }
	}
	return l
}

// listEdits leave out, double and swap what a list has, and put others in.
func listEdits[T any](what string, l *[]T, more ...T) []edit {
	var out []edit
	for i := range *l {
		out = append(out,
			edit{what: what + " less one", do: func() { *l = slices.Delete(slices.Clone(*l), i, i+1) }},
			edit{what: what + " one twice", do: func() { *l = slices.Insert(slices.Clone(*l), i, (*l)[i]) }},
			edit{what: what + " up to one", do: func() { *l = slices.Clone((*l)[:i]) }},
		)
		for j := range i {
			out = append(out, edit{what: what + " swapped", do: func() {
				*l = slices.Clone(*l)
				(*l)[i], (*l)[j] = (*l)[j], (*l)[i]
			}})
		}
	}
	for _, x := range more {
		for i := range len(*l) + 1 {
			out = append(out, edit{what: what + " more", do: func() { *l = slices.Insert(slices.Clone(*l), i, x) }})
		}
	}
	return of(l, out...)
}

// editor makes edits by names that a program's parts may be given, and by expressions that may take one's place.
type editor struct {
	names  []string
	others []api.Expr
}

func newEditor(variables ...string) *editor {
	d := &editor{names: append(variables, "none", "exp", "sum", "size", "dot", "normal", "beta", "poisson", "", "1", "1.5", "target")}
	for i, s := range variables {
		e := name(s)
		e.At = -500 - i
		d.others = append(d.others, e)
	}
	d.others = append(d.others, num("1"), num("0.5"), ex(api.ExCall, "exp", num("1")), ex(api.ExLt, "", num("1"), num("2")), api.Expr{})
	if len(variables) > 0 {
		v := variables[len(variables)-1]
		d.others = append(d.others, ex(api.ExCall, "size", name(v)), ex(api.ExIndex, v, num("1")), ex(api.ExMul, "", name(v), name(v)))
	}
	return d
}

func (d *editor) named(what string, s *string) []edit {
	var out []edit
	for _, to := range d.names {
		out = append(out, edit{what: what + " named " + to, do: func() { *s = to }})
	}
	return of(s, out...)
}

func (d *editor) exprs(what string, l *[]api.Expr) []edit {
	out := listEdits(what+" list", l, d.others...)
	for i := range *l {
		e := &(*l)[i]
		var more []edit
		for _, x := range d.others {
			more = append(more, edit{what: what + " is another", do: func() { *e = x }})
		}
		for op := range uint8(17) {
			more = append(more, edit{what: what + " op", do: func() { e.Op = op }})
		}
		for _, k := range e.Kids {
			more = append(more, edit{what: what + " is its kid", do: func() { *e = k }})
		}
		more = append(more, edit{what: what + " negative", do: func() { *e = api.Expr{Op: api.ExNeg, At: -900, Kids: exprs(*e)} }}, edit{what: what + " in size", do: func() { *e = api.Expr{Op: api.ExCall, Name: "size", At: -900, Kids: exprs(*e)} }})
		out = slices.Concat(out, of(e, more...), d.named(what, &e.Name), d.exprs(what+" kid", &e.Kids))
	}
	return out
}

func (d *editor) stmts(l *[]api.Stmt) []edit {
	out := listEdits("stmts", l, term(num("1")), api.Stmt{Op: api.StSet, Name: "q", Kids: exprs(num("1"), num("2"))}, api.Stmt{Op: api.StFor, Name: "a", Kids: exprs(num("1"), name("m"))}, api.Stmt{})
	for i := range *l {
		s := &(*l)[i]
		var more []edit
		for op := range uint8(8) {
			more = append(more, edit{what: "stmt op", do: func() { s.Op = op }})
		}
		more = append(more,
			edit{what: "body and else", do: func() { s.Body, s.Else = s.Else, s.Body }},
			edit{what: "stmt in block", do: func() { *s = api.Stmt{Op: api.StBlock, At: -700, Body: []api.Stmt{*s}} }},
			edit{what: "stmt in loop", do: func() {
				*s = api.Stmt{Op: api.StFor, At: -700, Name: "a", Kids: exprs(num("1"), num("2")), Body: []api.Stmt{*s}}
			}},
			edit{what: "stmt in choice", do: func() {
				*s = api.Stmt{Op: api.StIf, At: -700, Kids: exprs(ex(api.ExLt, "", num("1"), num("2"))), Else: []api.Stmt{*s}}
			}})
		out = slices.Concat(out, of(s, more...), d.named("stmt", &s.Name), d.exprs("of stmt", &s.Kids), d.stmts(&s.Body), d.stmts(&s.Else))
	}
	return out
}

func (d *editor) decls(l *[]api.Decl) []edit {
	out := listEdits("decls", l, api.Decl{Type: api.TyInt, Name: "none"}, api.Decl{Type: api.TyVec, Name: "mu", Size: exprs(num("2"))}, api.Decl{})
	for i := range *l {
		x := &(*l)[i]
		var more []edit
		for ty := range uint8(7) {
			more = append(more, edit{what: "type", do: func() { x.Type = ty }}, edit{what: "type and size", do: func() { x.Type, x.Size = ty, exprs(num("2")) }}, edit{what: "type alone", do: func() { x.Type, x.Size = ty, nil }})
		}
		more = append(more, edit{what: "bounds", do: func() { x.Lower, x.Upper = x.Upper, x.Lower }}, edit{what: "lower and init", do: func() { x.Lower, x.Init = x.Init, x.Lower }}, edit{what: "size and upper", do: func() { x.Size, x.Upper = x.Upper, x.Size }})
		out = slices.Concat(out, of(x, more...), d.named("decl", &x.Name), d.exprs("size", &x.Size), d.exprs("lower", &x.Lower), d.exprs("upper", &x.Upper), d.exprs("init", &x.Init))
	}
	return out
}

func (d *editor) prog(p *api.Prog) []edit {
	var out []edit
	for i := range p.Blocks {
		b := &p.Blocks[i]
		more := []edit{{what: "is", do: func() { b.Is = !b.Is }}, {what: "nothing", do: func() { *b = api.Block{} }}, {what: "no declarations", do: func() { b.Decls = nil }}, {what: "no statements", do: func() { b.Stmts = nil }}}
		for j := range p.Blocks {
			c := &p.Blocks[j]
			more = append(more, edit{what: "swapped", do: func() { *b, *c = *c, *b }}, edit{what: "declarations moved", do: func() {
				b.Decls, c.Decls = slices.Concat(b.Decls, c.Decls), nil
				b.Is = true
			}}, edit{what: "statements moved", do: func() {
				b.Stmts, c.Stmts = slices.Concat(b.Stmts, c.Stmts), nil
				b.Is = true
			}})
		}
		out = slices.Concat(out, of(p, more...), d.decls(&b.Decls), d.stmts(&b.Stmts))
	}
	return out
}
