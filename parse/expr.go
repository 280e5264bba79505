package parse

import "stepstone/api"

// signs are those of the operations between two kids.
var signs = [...]string{
	api.ExAdd: "+", api.ExSub: "-", api.ExMul: "*", api.ExDiv: "/",
	api.ExEq: "==", api.ExNe: "!=", api.ExLt: "<", api.ExLe: "<=", api.ExGt: ">", api.ExGe: ">=",
}

func (p *parser) comparison() api.Expr {
	left := p.sum()
	op := p.operation(api.ExEq, api.ExGe)
	p.need(op != 0, api.ErrSyntax)
	return both(op, left, p.sum())
}

func (p *parser) sum() api.Expr {
	left := p.product()
	for op := p.operation(api.ExAdd, api.ExSub); op != 0; op = p.operation(api.ExAdd, api.ExSub) {
		left = both(op, left, p.product())
	}
	return left
}

func (p *parser) product() api.Expr {
	left := p.unary()
	for op := p.operation(api.ExMul, api.ExDiv); op != 0; op = p.operation(api.ExMul, api.ExDiv) {
		left = both(op, left, p.unary())
	}
	return left
}

// operation takes the sign of one of some operations, and returns which one's it is, or 0 if there is none.
func (p *parser) operation(first, last uint8) uint8 {
	for op := first; op <= last; op++ {
		if p.try(signs[op]) {
			return op
		}
	}
	return 0
}

func both(op uint8, left, right api.Expr) api.Expr {
	return api.Expr{Op: op, At: left.At, Kids: []api.Expr{left, right}}
}

func (p *parser) unary() api.Expr {
	if read := p.exprs[p.next().Text]; read != nil {
		return read(p)
	}
	if p.next().Kind == api.TkNumber {
		return api.Expr{Op: api.ExNum, At: p.next().At, Name: p.number()}
	}
	return p.named()
}

func (p *parser) negative() api.Expr {
	e := api.Expr{Op: api.ExNeg, At: p.next().At}
	p.opens("-")
	e.Kids = []api.Expr{p.unary()}
	p.ends()
	return e
}

// inBrackets reads an expression of which nothing but its place tells that it is in brackets.
func (p *parser) inBrackets() api.Expr {
	at := p.next().At
	p.opens("(")
	e := p.sum()
	p.closes(")")
	e.At = at
	return e
}

func (p *parser) named() api.Expr {
	e := api.Expr{Op: api.ExName, At: p.next().At, Name: p.name()}
	switch {
	case p.is("["):
		e.Op = api.ExIndex
		e.Kids = p.index()
	case p.is("("):
		e.Op = api.ExCall
		e.Kids = p.arguments()
	}
	return e
}

// index reads an expression in [ ], as a list of one.
func (p *parser) index() []api.Expr {
	p.opens("[")
	out := []api.Expr{p.sum()}
	p.closes("]")
	return out
}

// arguments reads expressions in ( ), separated by commas.
func (p *parser) arguments() []api.Expr {
	var out []api.Expr
	p.opens("(")
	for more := !p.is(")"); more; more = p.try(",") {
		out = append(out, p.sum())
	}
	p.closes(")")
	return out
}
