package tree

import (
	"stepstone/api"
	"stepstone/token"
)

// isOne tells whether a text is exactly one token of a kind: with nothing beside it.
func isOne(kind uint8, s string) bool {
	l, f := token.Read(s)
	return f.E == api.OK && len(l) == 1 && l[0].Kind == kind && l[0].Text == s
}

func isNumeral(s string) bool { return isOne(api.TkNumber, s) }

func isEmpty(s string) bool { return s == "" }

// isTaken tells whether a word has a meaning of its own, so that it can't be a name.
func isTaken(s string) bool {
	switch s {
	case "data", "transformed", "parameters", "model", "generated", "quantities",
		"int", "real", "vector", "array",
		"for", "in", "if", "else",
		"target", "lower", "upper":
		return true
	}
	return false
}
