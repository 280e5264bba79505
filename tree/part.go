package tree

import (
	"slices"

	"stepstone/api"
)

// role is what a part is at its place in a tree. An expression's depends on where it is: so one that is out of place is not valid by its kind alone.
type role uint8

const (
	expression role = iota
	comparison
	statement
	declaration
	bare // a declaration that may not have an initial value
	block
	absent // a block that is not there: whichever it is, it must have nothing
)

// kind is a role, with the Op, the Type, or the block's place among the six.
type kind struct {
	role role
	op   uint8
}

// counts are the lengths of a part's lists, in their order.
type counts [4]int

// head is what a part is without those below it, and without its place. Two trees are the same if their parts have the same heads, in the same order: what is where depends on the heads before it alone.
type head struct {
	kind
	name  string
	below counts
}

// part is a piece of a tree, of any role.
type part interface {
	head() head
	// below are the parts right below it, list by list.
	below() []part
	// row is by what it is written. It has to be valid.
	row() row
}

type exprPart struct{ *api.Expr }

type comparisonPart struct{ exprPart }

type stmtPart struct{ *api.Stmt }

type declPart struct {
	*api.Decl
	role role
}

type blockPart struct {
	*api.Block
	at uint8
}

func asExpression(e *api.Expr) part { return exprPart{e} }

func asComparison(e *api.Expr) part { return comparisonPart{exprPart{e}} }

func asStatement(s *api.Stmt) part { return stmtPart{s} }

func asDeclaration(d *api.Decl) part { return declPart{d, declaration} }

func asBare(d *api.Decl) part { return declPart{d, bare} }

// blocks are a program's parts.
func blocks(p *api.Prog) []part {
	var out []part
	for i := range p.Blocks {
		out = append(out, blockPart{&p.Blocks[i], uint8(i)})
	}
	return out
}

// each are the parts that a list has.
func each[T any](list []T, as func(*T) part) []part {
	out := make([]part, len(list))
	for i := range list {
		out[i] = as(&list[i])
	}
	return out
}

func (e exprPart) head() head {
	return head{kind{expression, e.Op}, e.Name, counts{len(e.Kids)}}
}

func (e exprPart) below() []part { return each(e.Kids, asExpression) }

func (c comparisonPart) head() head {
	h := c.exprPart.head()
	h.role = comparison
	return h
}

func (s stmtPart) head() head {
	return head{kind{statement, s.Op}, s.Name, counts{len(s.Kids), len(s.Body), len(s.Else)}}
}

func (s stmtPart) below() []part {
	return slices.Concat(s.kids(), each(s.Body, asStatement), each(s.Else, asStatement))
}

func (s stmtPart) kids() []part {
	if s.Op == api.StIf {
		return each(s.Kids, asComparison)
	}
	return each(s.Kids, asExpression)
}

func (d declPart) head() head {
	return head{kind{d.role, d.Type}, d.Name, counts{len(d.Size), len(d.Lower), len(d.Upper), len(d.Init)}}
}

func (d declPart) below() []part {
	return each(slices.Concat(d.Size, d.Lower, d.Upper, d.Init), asExpression)
}

func (b blockPart) head() head {
	h := head{kind: kind{block, b.at}, below: counts{len(b.Decls), len(b.Stmts)}}
	if !b.Is {
		h.kind = kind{absent, 0}
	}
	return h
}

func (b blockPart) below() []part {
	as := asDeclaration
	if b.at == api.BkData || b.at == api.BkPars {
		as = asBare
	}
	return slices.Concat(each(b.Decls, as), each(b.Stmts, asStatement))
}
