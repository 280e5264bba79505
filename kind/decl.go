package kind

import (
	"strings"

	"stepstone/api"
)

func (c *checker) declaration(d api.Decl) {
	p := c.declarations[d.Type]
	c.needNew(d.Name, d.At)
	need(!p.isWhole() || !c.isPar(), api.ErrType, d.At)
	for _, e := range d.Size {
		c.count(e)
	}
	for _, e := range d.Lower {
		c.bound(e, p.bounds)
	}
	for _, e := range d.Upper {
		c.bound(e, p.bounds)
	}
	for _, e := range d.Init {
		needType(c.kind(e), p.value, e.At)
	}
	// Vars hands these out: so they have names of their own.
	c.add(api.Var{Name: strings.Clone(d.Name), Type: d.Type, Block: c.block, Par: c.isPar()})
}

// isPar tells whether variables of this block depend on parameters.
func (c *checker) isPar() bool { return c.block >= api.BkPars }

func (c *checker) bound(e api.Expr, in types) {
	need(c.block == api.BkData || c.block == api.BkPars, api.ErrType, e.At)
	k := c.kind(e)
	needType(k, in, e.At)
	if c.block == api.BkData {
		c.needExact(e)
	}
	needFixed(k, e.At)
}
