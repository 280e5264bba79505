// Package walk goes through expressions from the bottom up. What is still to come waits in a list, as an expression may be deeper than a stack can be.
package walk

import (
	"iter"

	"stepstone/api"
)

// KidsFirst produces an expression and all that are in it: each one behind its kids.
func KidsFirst(e *api.Expr) iter.Seq[*api.Expr] {
	type entered struct {
		e    *api.Expr
		kids int
	}
	return func(yield func(e *api.Expr) bool) {
		for path := []entered{{e, 0}}; len(path) > 0; {
			last := len(path) - 1
			top := path[last]
			if top.kids < len(top.e.Kids) {
				path[last].kids++
				path = append(path, entered{&top.e.Kids[top.kids], 0})
				continue
			}
			path = path[:last]
			if !yield(top.e) {
				return
			}
		}
	}
}

// Up is what an expression comes to, if one comes to what above makes of what its kids come to. That must not keep the list of these.
func Up[T any](e *api.Expr, above func(e *api.Expr, kids []T) T) T {
	var l []T
	for x := range KidsFirst(e) {
		first := len(l) - len(x.Kids)
		l = append(l[:first], above(x, l[first:]))
	}
	return l[0]
}
