package parse

import "stepstone/api"

// statements are read up to the end of what they are in.
func (p *parser) statements() []api.Stmt {
	var out []api.Stmt
	for !p.is("}") {
		out = append(out, p.statement())
	}
	return out
}

func (p *parser) statement() api.Stmt {
	at := p.next().At
	read := p.stmts[p.next().Text]
	if read == nil {
		read = (*parser).simple
	}
	s := read(p)
	s.At = at
	return s
}

// simple reads a statement that begins with an expression. Which one it is shows behind that.
func (p *parser) simple() api.Stmt {
	inBrackets := p.is("(")
	left := p.sum()
	if p.is("=") && !inBrackets && (left.Op == api.ExName || left.Op == api.ExIndex) {
		return p.assignment(left)
	}
	p.take("~")
	s := api.Stmt{Op: api.StDist, Name: p.name(), Kids: append([]api.Expr{left}, p.arguments()...)}
	p.take(";")
	return s
}

func (p *parser) assignment(to api.Expr) api.Stmt {
	s := api.Stmt{Op: api.StSet, Name: to.Name, Kids: append(to.Kids, p.behind("=")...)}
	p.take(";")
	return s
}

func (p *parser) term() api.Stmt {
	s := api.Stmt{Op: api.StAdd, Kids: p.behind("target", "+=")}
	p.take(";")
	return s
}

func (p *parser) loop() api.Stmt {
	p.take("for")
	p.opens("(")
	s := api.Stmt{Op: api.StFor, Name: p.name()}
	s.Kids = append(p.behind("in"), p.behind(":")...)
	p.closes(")")
	s.Body = p.body()
	return s
}

func (p *parser) choice() api.Stmt {
	p.take("if")
	p.opens("(")
	s := api.Stmt{Op: api.StIf, Kids: []api.Expr{p.comparison()}}
	p.closes(")")
	s.Body = p.body()
	if p.try("else") {
		s.Else = p.body()
	}
	return s
}

func (p *parser) group() api.Stmt { return api.Stmt{Op: api.StBlock, Body: p.body()} }

func (p *parser) body() []api.Stmt {
	p.opens("{")
	out := p.statements()
	p.closes("}")
	return out
}
