package parse

import "stepstone/api"

// parser makes trees of the tokens that it embeds. What the next word tells is in maps: whoever reads what it begins takes that word, too.
type parser struct {
	tokens
	titles map[string]func(p *parser, from int) int
	decls  map[string]func(p *parser) api.Decl
	stmts  map[string]func(p *parser) api.Stmt
	exprs  map[string]func(p *parser) api.Expr
}

func newParser(t tokens) *parser {
	return &parser{
		tokens: t,
		titles: map[string]func(*parser, int) int{
			"data":        (*parser).data,
			"transformed": (*parser).transformed,
			"parameters":  (*parser).parameters,
			"model":       (*parser).model,
			"generated":   (*parser).generated,
		},
		decls: map[string]func(*parser) api.Decl{
			"int":    (*parser).integer,
			"real":   (*parser).real,
			"vector": (*parser).vector,
			"array":  (*parser).array,
		},
		stmts: map[string]func(*parser) api.Stmt{
			"target": (*parser).term,
			"for":    (*parser).loop,
			"if":     (*parser).choice,
			"{":      (*parser).group,
		},
		exprs: map[string]func(*parser) api.Expr{
			"-": (*parser).negative,
			"(": (*parser).inBrackets,
		},
	}
}
