package bind_test

import (
	"math/big"
	"math/rand/v2"
	"slices"
	"strconv"

	"stepstone/api"
)

// maker makes random values, expressions of them, and programs with data.
type maker struct {
	g      *rand.Rand
	values []api.Value
}

// newMaker has values of each type, among them several of one name, most rows of one size.
func newMaker(g *rand.Rand) *maker {
	m := &maker{g: g}
	n := g.IntN(4)
	for i := range 5 + g.IntN(10) {
		ty := types()[i%5]
		if i >= 5 {
			ty = oneOf(g, types()...)
		}
		size := n
		if g.IntN(8) == 0 {
			size = g.IntN(6)
		}
		m.values = append(m.values, m.value(oneOf(g, "a", "b", "n", "v", "x")+strconv.Itoa(g.IntN(12)), ty, size))
	}
	return m
}

func (m *maker) value(name string, ty uint8, n int) api.Value {
	v := api.Value{Name: name, Type: ty}
	if !isRow(ty) {
		n = 1
	}
	for range n {
		if isWhole(ty) {
			v.Ints = append(v.Ints, m.int())
		} else {
			v.Nums = append(v.Nums, normal(m.num()))
		}
	}
	return v
}

func (m *maker) int() int64 {
	switch m.g.IntN(12) {
	case 0:
		return oneOf(m.g, int64(mostInt), -mostInt, mostInt-1, 1-mostInt, 1<<30, 46341, 65536)
	case 1:
		return m.g.Int64N(2*mostInt+1) - mostInt
	}
	return m.g.Int64N(8) - 2
}

func (m *maker) num() *big.Rat {
	bits := m.g.IntN(400)
	if m.g.IntN(20) == 0 {
		bits = m.g.IntN(maxBits)
	}
	switch m.g.IntN(30) {
	case 0:
		return new(big.Rat).SetFrac(plus(pow2(bits), m.g.Int64N(9)-4), big.NewInt(1))
	case 1:
		return new(big.Rat).SetFrac(big.NewInt(m.g.Int64N(9)-4), pow2(bits))
	case 2:
		return new(big.Rat).SetFrac(big.NewInt(m.g.Int64N(9)-4), plus(pow2(m.g.IntN(200)), m.g.Int64N(9)))
	}
	return big.NewRat(m.g.Int64N(19)-9, m.g.Int64N(6)+1)
}

// last are the values that a name stands for.
func (m *maker) last() []api.Value {
	var out []api.Value
	for i, v := range m.values {
		if !slices.ContainsFunc(m.values[i+1:], func(w api.Value) bool { return w.Name == v.Name }) {
			out = append(out, v)
		}
	}
	return out
}

// variable is the name of one of a type.
func (m *maker) variable(ty uint8) (api.Expr, bool) {
	var fit []api.Expr
	for _, v := range m.last() {
		if v.Type == ty {
			fit = append(fit, name(v.Name))
		}
	}
	if fit == nil {
		return api.Expr{}, false
	}
	return oneOf(m.g, fit...), true
}

// expr makes an expression that has a type, if there can be one; how likely one that has no exact value is depends on inexact.
func (m *maker) expr(ty uint8, depth, inexact int) (api.Expr, bool) {
	for range 6 {
		if depth > 0 && m.g.IntN(5) > 0 {
			if e, is := m.deeper(ty, depth-1, inexact); is {
				return e, true
			}
		}
		if e, is := m.variable(ty); is && m.g.IntN(3) > 0 {
			return e, true
		}
	}
	switch ty {
	case api.TyInt:
		return num(oneOf(m.g, "0", "1", "2", "3", "17", "999999999", "000000001")), true
	case api.TyReal:
		return num(oneOf(m.g, "0.5", "1e-3", "1234567890", "2.0e2", "0.0", "0.1", "1e9999", "1e-9999", "0000000002")), true
	}
	return m.variable(ty)
}

func (m *maker) deeper(ty uint8, depth, inexactly int) (api.Expr, bool) {
	var rows []row
	for _, r := range table() {
		if r.result == ty && (!slices.Contains(inexact(), r.what) || m.g.IntN(100) < inexactly) {
			rows = append(rows, r)
		}
	}
	if rows == nil {
		return api.Expr{}, false
	}
	r := oneOf(m.g, rows...)
	var kids []api.Expr
	for i, ty := range r.kids {
		k, is := m.expr(ty, depth, inexactly)
		if r.what == "index" && i == 0 {
			k, is = m.variable(ty)
		}
		if !is {
			return api.Expr{}, false
		}
		kids = append(kids, k)
	}
	return r.of(kids...), true
}

// any is an expression of any type.
func (m *maker) any() api.Expr {
	for {
		if e, is := m.expr(oneOf(m.g, types()...), m.g.IntN(8), oneOf(m.g, 0, 0, 0, 20)); is {
			return e
		}
	}
}

// prog makes a program with data, most of which can be bound: what is declared is chosen by what was bound before.
func (m *maker) prog() (api.Prog, []api.Datum) {
	m.values = nil
	var p api.Prog
	var data []api.Datum
	b := &p.Blocks[api.BkData]
	b.Is = true
	at := 100
	for i := range m.g.IntN(8) {
		for range 20 {
			d := m.decl("x" + strconv.Itoa(i))
			for _, l := range []*[]api.Expr{&d.Size, &d.Lower, &d.Upper} {
				for j, e := range *l {
					pl := placer{at}
					(*l)[j] = pl.expr(e)
					at = pl.at
				}
			}
			at += 3
			d.At = at
			v, item, is := m.item(d)
			if !is && m.g.IntN(12) > 0 {
				continue
			}
			b.Decls, data = append(b.Decls, d), append(data, item)
			m.values = append(m.values, v)
			break
		}
	}
	m.g.Shuffle(len(data), func(i, j int) { data[i], data[j] = data[j], data[i] })
	if m.g.IntN(3) == 0 {
		data = append(data, one("other", ratio(1, 2)))
	}
	return p, data
}

func (m *maker) decl(name string) api.Decl {
	d := api.Decl{Type: oneOf(m.g, types()...), Name: name}
	of := func(ty uint8) []api.Expr {
		if e, is := m.expr(ty, m.g.IntN(4), 0); is {
			return []api.Expr{e}
		}
		return nil
	}
	if isRow(d.Type) {
		d.Size = of(api.TyInt)
	}
	bound := func() uint8 {
		if isWhole(d.Type) {
			return api.TyInt
		}
		return oneOf(m.g, api.TyInt, api.TyReal)
	}
	if m.g.IntN(3) == 0 {
		d.Lower = of(bound())
	}
	if m.g.IntN(3) == 0 {
		d.Upper = of(bound())
	}
	return d
}

// item is a value that a declaration is bound to, and what the data have to say for that, if there can be one.
func (m *maker) item(d api.Decl) (api.Value, api.Datum, bool) {
	n, is := 1, true
	known := modelOf(m.values)
	if isRow(d.Type) {
		l, f := known.come(d.Size[0])
		if n = 2; f.E == api.OK && l[0].Cmp(big.NewRat(40, 1)) <= 0 && l[0].Sign() >= 0 {
			n = int(l[0].Num().Int64())
		} else {
			is = false
		}
	}
	v := m.value(d.Name, d.Type, n)
	nums := modelOf([]api.Value{v}).nums[0]
	for i, x := range nums {
		for side, bounds := range [][]api.Expr{d.Lower, d.Upper} {
			for _, e := range bounds {
				if l, f := known.come(e); f.E == api.OK && x.Cmp(l[0]) == 2*side-1 {
					x = l[0]
				}
			}
		}
		nums[i] = x
	}
	v = made(d.Name, d.Type, nums)
	out := api.Datum{Name: d.Name, At: m.g.IntN(99), List: isRow(d.Type), Whole: isWhole(d.Type) || m.g.IntN(2) == 0}
	for _, x := range nums {
		out.Nums = append(out.Nums, m.written(x))
	}
	return v, out, is && known.beside(0, nums, -1, d.Lower).E == api.OK && known.beside(0, nums, 1, d.Upper).E == api.OK
}

// written is a number, sometimes not in the one way that is normal.
func (m *maker) written(x *big.Rat) api.Frac {
	k := big.NewInt(1)
	if m.g.IntN(4) == 0 && areShort(times(x.Num(), big.NewInt(6)), times(x.Denom(), big.NewInt(6))) {
		k = big.NewInt(m.g.Int64N(6) + 1)
	}
	out := fracOf(times(x.Num(), k), times(x.Denom(), k))
	if m.g.IntN(6) == 0 {
		out.N.M = append(out.N.M, 0)
	}
	if m.g.IntN(6) == 0 {
		out.D = append(out.D, 0, 0)
	}
	if x.Sign() == 0 {
		out.N.Neg = m.g.IntN(2) == 0
	}
	return out
}
