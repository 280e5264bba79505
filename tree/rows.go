package tree

import (
	"strings"

	"stepstone/api"
)

// operators are the signs of the operations and comparisons.
var operators = [...]string{
	api.ExNeg: "-", api.ExAdd: "+", api.ExSub: "-", api.ExMul: "*", api.ExDiv: "/",
	api.ExEq: "==", api.ExNe: "!=", api.ExLt: "<", api.ExLe: "<=", api.ExGt: ">", api.ExGe: ">=",
}

// titles are what the blocks begin with.
var titles = [...]string{
	api.BkData: "data", api.BkMade: "transformed data",
	api.BkPars: "parameters", api.BkTurned: "transformed parameters",
	api.BkModel: "model", api.BkGenerated: "generated quantities",
}

// scalars are the types of a variable, or, for TyInts and TyReals, of its elements.
var scalars = [...]string{api.TyInt: "int", api.TyReal: "real", api.TyVec: "vector", api.TyInts: "int", api.TyReals: "real"}

func (e exprPart) row() row {
	switch e.Op {
	case api.ExNum, api.ExName:
		return row{}.tokens(e.Name)
	case api.ExIndex:
		return row{}.tokens(e.Name, "[").exprs(e.Kids).tokens("]")
	case api.ExCall:
		return row{}.tokens(e.Name, "(").exprs(e.Kids).tokens(")")
	case api.ExNeg:
		return row{}.tokens(operators[e.Op]).kid(e, 0)
	}
	return row{}.kid(e, 0).tokens(operators[e.Op]).kid(e, 1)
}

func (s stmtPart) row() row {
	switch s.Op {
	case api.StSet:
		value := len(s.Kids) - 1
		return row{}.tokens(s.Name).inBrackets(s.Kids[:value]).tokens("=").exprs(s.Kids[value:]).tokens(";")
	case api.StAdd:
		return row{}.tokens("target", "+=").exprs(s.Kids).tokens(";")
	case api.StDist:
		return row{}.exprs(s.Kids[:1]).tokens("~", s.Name, "(").exprs(s.Kids[1:]).tokens(")", ";")
	case api.StFor:
		return row{}.tokens("for", "(", s.Name, "in").exprs(s.Kids[:1]).tokens(":").exprs(s.Kids[1:]).tokens(")").body(s.Body)
	case api.StIf:
		return row{}.tokens("if", "(").parts(s.kids()).tokens(")").body(s.Body).otherwise(s.Else)
	}
	return row{}.body(s.Body)
}

func (d declPart) row() row {
	var r row
	switch d.Type {
	case api.TyInts, api.TyReals:
		r = r.tokens("array").inBrackets(d.Size).tokens(scalars[d.Type]).bounds(d)
	default:
		r = r.tokens(scalars[d.Type]).bounds(d).inBrackets(d.Size)
	}
	return r.tokens(d.Name).maybe(d.Init, "=").tokens(";")
}

func (b blockPart) row() row {
	if !b.Is {
		return nil
	}
	return row{}.tokens(strings.Fields(titles[b.at])...).tokens("{").parts(b.below()).tokens("}")
}

// inBrackets adds an index or a size, if there is one.
func (r row) inBrackets(list []api.Expr) row {
	if len(list) == 0 {
		return r
	}
	return r.tokens("[").exprs(list).tokens("]")
}

// maybe adds an expression, with tokens ahead of it, if there is one.
func (r row) maybe(list []api.Expr, ahead ...string) row {
	if len(list) == 0 {
		return r
	}
	return r.tokens(ahead...).exprs(list)
}

func (r row) otherwise(list []api.Stmt) row {
	if len(list) == 0 {
		return r
	}
	return r.tokens("else").body(list)
}

func (r row) bounds(d declPart) row {
	if len(d.Lower) == 0 && len(d.Upper) == 0 {
		return r
	}
	r = r.tokens("<").maybe(d.Lower, "lower", "=")
	if len(d.Lower) > 0 && len(d.Upper) > 0 {
		r = r.tokens(",")
	}
	return r.maybe(d.Upper, "upper", "=").tokens(">")
}
