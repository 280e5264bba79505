package parse

import "stepstone/api"

// declarations are read up to what begins none.
func (p *parser) declarations(mayHaveInit bool) []api.Decl {
	var out []api.Decl
	for p.decls[p.next().Text] != nil {
		out = append(out, p.declaration(mayHaveInit))
	}
	return out
}

func (p *parser) declaration(mayHaveInit bool) api.Decl {
	at := p.next().At
	d := p.decls[p.next().Text](p)
	d.At = at
	d.Name = p.name()
	if mayHaveInit && !isArray(d) && p.is("=") {
		d.Init = p.behind("=")
	}
	p.take(";")
	return d
}

func isArray(d api.Decl) bool { return d.Type == api.TyInts || d.Type == api.TyReals }

func (p *parser) integer() api.Decl { return p.bounded("int", api.TyInt) }

func (p *parser) real() api.Decl { return p.bounded("real", api.TyReal) }

func (p *parser) vector() api.Decl {
	d := p.bounded("vector", api.TyVec)
	d.Size = p.index()
	return d
}

func (p *parser) array() api.Decl {
	p.take("array")
	size := p.index()
	d := p.elements()
	d.Size = size
	return d
}

func (p *parser) elements() api.Decl {
	if p.is("int") {
		return p.bounded("int", api.TyInts)
	}
	return p.bounded("real", api.TyReals)
}

// bounded reads a type's word and the bounds behind it.
func (p *parser) bounded(word string, kind uint8) api.Decl {
	p.take(word)
	d := api.Decl{Type: kind}
	if !p.try("<") {
		return d
	}
	hasLower := p.is("lower")
	if hasLower {
		d.Lower = p.behind("lower", "=")
	}
	if !hasLower || p.try(",") {
		d.Upper = p.behind("upper", "=")
	}
	p.take(">")
	return d
}

// behind reads an expression, with words ahead of it, as a list of one.
func (p *parser) behind(words ...string) []api.Expr {
	for _, word := range words {
		p.take(word)
	}
	return []api.Expr{p.sum()}
}
