package kind

import (
	"strings"

	"stepstone/api"
	"stepstone/walk"
)

// wholeDigits is how many digits a numeral has at most that is an integer.
const wholeDigits = 9

func (c *checker) kind(e api.Expr) api.Kind { return walk.Up(&e, c.above) }

// above is the kind of an expression whose kids have some kinds.
func (c *checker) above(e *api.Expr, kids []api.Kind) api.Kind {
	switch e.Op {
	case api.ExNum:
		return api.Kind{Type: numeralType(e.Name)}
	case api.ExName:
		v := c.variable(e.Name, e.At)
		return api.Kind{Type: v.Type, Par: v.Par}
	case api.ExIndex:
		return c.element(c.variable(e.Name, e.At), e.At, kids[0], e.Kids[0].At)
	case api.ExCall:
		_, is := c.functions[e.Name]
		need(is, api.ErrName, e.At)
		return kindBy(c.functions, e.Name, e.At, kids...)
	}
	return kindBy(c.operations, e.Op, e.At, kids...)
}

func numeralType(s string) uint8 {
	if len(s) > wholeDigits || strings.ContainsAny(s, ".e") {
		return api.TyReal
	}
	return api.TyInt
}

// element is the kind of a variable's element. That it has any comes ahead of what its index must be.
func (c *checker) element(v api.Var, at int, index api.Kind, indexAt int) api.Kind {
	k := kindBy(c.operations, api.ExIndex, at, api.Kind{Type: v.Type, Par: v.Par})
	needCount(index, indexAt)
	return k
}

// count checks what something is chosen, counted or sized by.
func (c *checker) count(e api.Expr) { needCount(c.kind(e), e.At) }

// needExact is for what has to have a value that is computed exactly.
func (c *checker) needExact(e api.Expr) {
	for x := range walk.KidsFirst(&e) {
		need(x.Op != api.ExCall || !c.functions[x.Name].isInexact, api.ErrType, x.At)
	}
}
