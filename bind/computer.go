package bind

import (
	"stepstone/api"
	"stepstone/walk"
)

// computer knows what variables and calls come to. The first fault ends the computation by a panic.
type computer struct {
	known      map[string]api.Value
	operations map[uint8]operation
	functions  map[string]function
}

func newComputer(l []api.Value) *computer {
	c := &computer{map[string]api.Value{}, operations(), functions()}
	for _, v := range l {
		c.add(v)
	}
	return c
}

func (c *computer) add(v api.Value) { c.known[v.Name] = v }

// result is in new memory. It needs an expression that has a type.
func (c *computer) result(e api.Expr) api.Value {
	out := copied(c.value(e))
	out.Name = ""
	return out
}

// value may share its memory with the variables'.
func (c *computer) value(e api.Expr) api.Value { return walk.Up(&e, c.above) }

// above is the value of an expression whose kids have some values.
func (c *computer) above(e *api.Expr, kids []api.Value) api.Value {
	at := place(e.At)
	switch e.Op {
	case api.ExNum:
		return at.numeral(e.Name).value()
	case api.ExName:
		return c.known[e.Name]
	case api.ExIndex:
		return at.indexed(c.known[e.Name], kids[0]).value()
	case api.ExCall:
		f, is := c.functions[e.Name]
		at.need(is, api.ErrType)
		return f(at, kids)
	case api.ExNeg:
		return at.each(place.difference, at.integer(0).value(), kids[0])
	case api.ExDiv:
		at.needDivisor(kids[1])
	}
	return at.each(c.operations[e.Op], kids[0], kids[1])
}

func (at place) indexed(row, index api.Value) scalar {
	i := index.Ints[0]
	at.need(1 <= i && i <= int64(size(row)), api.ErrRange)
	return element(row, int(i-1))
}
