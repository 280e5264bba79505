package tree

import (
	"slices"
	"strings"

	"stepstone/api"
)

// What is between a token and the next one.
const (
	space    = " "
	lineFeed = "\n"
)

// write returns how parts are written, one after the other, with what is behind the last token.
func write(parts ...part) (string, api.Errno) {
	if check(parts...) != api.OK {
		return "", api.ErrTree
	}
	var out strings.Builder
	// A list, not calls within calls: a tree may be deeper than a stack can be.
	for todo := lastFirst(row{}.parts(parts)); len(todo) > 0; {
		last := len(todo) - 1
		next := todo[last]
		todo = todo[:last]
		if next.part != nil {
			todo = append(todo, lastFirst(next.part.row())...)
			continue
		}
		out.WriteString(next.token)
		out.WriteString(gapBehind(next.token))
	}
	return out.String(), api.OK
}

func lastFirst(r row) row {
	slices.Reverse(r)
	return r
}

func gapBehind(token string) string {
	switch token {
	case "{", "}", ";":
		return lineFeed
	}
	return space
}

// piece is a token; or a part, which is written by a row of its own.
type piece struct {
	token string
	part  part
}

// row is by what a part is written. Its methods add to it.
type row []piece

func (r row) tokens(texts ...string) row {
	for _, text := range texts {
		r = append(r, piece{token: text})
	}
	return r
}

func (r row) parts(parts []part) row {
	for _, p := range parts {
		r = append(r, piece{part: p})
	}
	return r
}

// exprs adds expressions, separated by commas.
func (r row) exprs(list []api.Expr) row {
	for i, p := range each(list, asExpression) {
		if i > 0 {
			r = r.tokens(",")
		}
		r = append(r, piece{part: p})
	}
	return r
}

func (r row) body(list []api.Stmt) row {
	return r.tokens("{").parts(each(list, asStatement)).tokens("}")
}

// kid adds a kid of an operation, in brackets if what it is written by would not be one kid otherwise.
func (r row) kid(e exprPart, i int) row {
	if strength(e.Kids[i].Op) < strength(e.Op)+i {
		return r.tokens("(").exprs(e.Kids[i : i+1]).tokens(")")
	}
	return r.exprs(e.Kids[i : i+1])
}

// strength is how strongly an expression holds its parts together. A first kid must hold them as strongly as the operation that it is in, a second one more strongly, as operations are read from the left on.
func strength(op uint8) int {
	switch op {
	case api.ExAdd, api.ExSub:
		return 1
	case api.ExMul, api.ExDiv:
		return 2
	case api.ExNeg:
		return 3
	case api.ExNum, api.ExName, api.ExIndex, api.ExCall:
		return 4
	}
	return 0 // comparisons, whose kids hold more strongly, whatever they are
}
