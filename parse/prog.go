package parse

import "stepstone/api"

func (p *parser) program() api.Prog {
	var out api.Prog
	for next := api.BkData; !p.isDone(); {
		title := p.titles[p.next().Text]
		p.need(title != nil, api.ErrSyntax)
		at := title(p, next)
		out.Blocks[at] = p.block(at)
		next = at + 1
	}
	return out
}

// Each of these takes a title, and returns which block's it is. Blocks ahead of from can't come any more.

func (p *parser) data(from int) int { return p.word("data", from, api.BkData) }

func (p *parser) transformed(from int) int {
	// Of the two that begin with this word either may follow as long as the last one may.
	p.word("transformed", from, api.BkTurned)
	if p.is("data") {
		return p.word("data", from, api.BkMade)
	}
	return p.word("parameters", from, api.BkTurned)
}

func (p *parser) parameters(from int) int { return p.word("parameters", from, api.BkPars) }

func (p *parser) model(from int) int { return p.word("model", from, api.BkModel) }

func (p *parser) generated(from int) int {
	p.word("generated", from, api.BkGenerated)
	return p.word("quantities", from, api.BkGenerated)
}

// word takes a word of a block's title, if that block may still come.
func (p *parser) word(text string, from, block int) int {
	p.need(from <= block, api.ErrSyntax)
	p.take(text)
	return block
}

func (p *parser) block(at int) api.Block {
	given := at == api.BkData || at == api.BkPars
	out := api.Block{Is: true}
	p.opens("{")
	if at != api.BkModel {
		out.Decls = p.declarations(!given)
	}
	if !given {
		out.Stmts = p.statements()
	}
	p.closes("}")
	return out
}
