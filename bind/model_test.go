package bind_test

import (
	"math/big"
	"slices"
	"testing"

	"stepstone/api"
	"stepstone/bind"
	"stepstone/kind"
	"stepstone/tree"
)

// model is the chapter in another way: by calls within calls, with the library's numbers. Whether there is an integer is asked of layer 15, for each expression by itself.
type model struct {
	names []string
	kinds []api.Var
	nums  [][]*big.Rat
}

func (m *model) add(name string, ty uint8, l []*big.Rat) {
	m.names = append(m.names, name)
	m.kinds = append(m.kinds, api.Var{Name: name, Type: ty, Block: 3})
	m.nums = append(m.nums, l)
}

func (m *model) find(name string) []*big.Rat {
	for i, s := range slices.Backward(m.names) {
		if s == name {
			return m.nums[i]
		}
	}
	panic("no variable " + name)
}

func (m *model) typeOf(e api.Expr) uint8 {
	k, f := kind.Of(e, m.kinds)
	if f.E != api.OK {
		panic(shownExpr(e) + " has no type")
	}
	return k.Type
}

func ratOf(x api.Frac) *big.Rat { return new(big.Rat).SetFrac(bigOf(x.N), bigOfNat(x.D)) }

func isFitting(x *big.Rat) bool {
	return x.IsInt() && x.Num().CmpAbs(big.NewInt(mostInt)) <= 0
}

// areShort tells whether no integer is too long for layer 6.
func areShort(l ...*big.Int) bool {
	return !slices.ContainsFunc(l, func(n *big.Int) bool { return n.BitLen() > maxBits })
}

func times(a, b *big.Int) *big.Int { return new(big.Int).Mul(a, b) }

// two is what two numbers come to, and whether there is that, and layer 6 has room for it.
type two func(a, b *big.Rat) (*big.Rat, bool)

func sum(a, b *big.Rat) (*big.Rat, bool) {
	p, q, d := times(a.Num(), b.Denom()), times(b.Num(), a.Denom()), times(a.Denom(), b.Denom())
	return new(big.Rat).Add(a, b), areShort(p, q, d, new(big.Int).Add(p, q))
}

func difference(a, b *big.Rat) (*big.Rat, bool) { return sum(a, new(big.Rat).Neg(b)) }

func product(a, b *big.Rat) (*big.Rat, bool) {
	return new(big.Rat).Mul(a, b), areShort(times(a.Num(), b.Num()), times(a.Denom(), b.Denom()))
}

func quotient(a, b *big.Rat) (*big.Rat, bool) {
	if b.Sign() == 0 {
		return nil, false
	}
	return new(big.Rat).Quo(a, b), areShort(times(a.Num(), b.Denom()), times(b.Num(), a.Denom()))
}

// across is what rows come to, element by element; a scalar's with each.
func across(f two, a, b []*big.Rat, ofRow, byRow bool) ([]*big.Rat, bool) {
	n := len(a)
	switch {
	case ofRow && byRow && len(a) != len(b):
		return nil, false
	case byRow && !ofRow:
		n = len(b)
		a = slices.Repeat(a, n)
	case ofRow && !byRow:
		b = slices.Repeat(b, n)
	}
	var out []*big.Rat
	for i := range n {
		x, is := f(a[i], b[i])
		if !is {
			return nil, false
		}
		out = append(out, x)
	}
	return out, true
}

// come is an expression's value, if it has one. That of an expression that has none is a fault.
func (m *model) come(e api.Expr) ([]*big.Rat, api.Fault) {
	var kids [][]*big.Rat
	var rows []bool
	for _, k := range e.Kids {
		l, f := m.come(k)
		if f.E != api.OK {
			return nil, f
		}
		kids, rows = append(kids, l), append(rows, isRow(m.typeOf(k)))
	}
	if e.Op == api.ExCall && slices.Contains(inexact(), e.Name) {
		return nil, api.Fault{E: api.ErrType, At: e.At}
	}
	l, is := m.above(e, kids, rows)
	if !is || m.typeOf(e) == api.TyInt && !isFitting(l[0]) {
		return nil, api.Fault{E: api.ErrRange, At: e.At}
	}
	return l, api.Fault{}
}

func (m *model) above(e api.Expr, kids [][]*big.Rat, rows []bool) ([]*big.Rat, bool) {
	switch e.Op {
	case api.ExNum:
		if len(e.Name) > mostNumeral {
			return nil, false
		}
		x, is := new(big.Rat).SetString(e.Name)
		return []*big.Rat{x}, is
	case api.ExName:
		return m.find(e.Name), true
	case api.ExIndex:
		l, i := m.find(e.Name), kids[0][0].Num().Int64()
		if i < 1 || i > int64(len(l)) {
			return nil, false
		}
		return l[i-1 : i], true
	case api.ExCall:
		return call(e.Name, kids, rows)
	case api.ExNeg:
		return across(difference, []*big.Rat{{}}, kids[0], false, rows[0])
	}
	if e.Op == api.ExDiv && kids[1][0].Sign() == 0 {
		return nil, false
	}
	f := map[uint8]two{api.ExAdd: sum, api.ExSub: difference, api.ExMul: product, api.ExDiv: quotient}[e.Op]
	return across(f, kids[0], kids[1], rows[0], rows[1])
}

func call(name string, kids [][]*big.Rat, rows []bool) ([]*big.Rat, bool) {
	l := kids[0]
	switch name {
	case "square":
		return across(product, l, l, rows[0], rows[0])
	case "size":
		return []*big.Rat{new(big.Rat).SetInt64(int64(len(l)))}, true
	case "dot":
		var is bool
		if l, is = across(product, kids[0], kids[1], true, true); !is {
			return nil, false
		}
	}
	out := new(big.Rat)
	for _, x := range l {
		var is bool
		if out, is = sum(out, x); !is {
			return nil, false
		}
	}
	return []*big.Rat{out}, true
}

// made is a value of numbers.
func made(name string, ty uint8, l []*big.Rat) api.Value {
	v := api.Value{Name: name, Type: ty}
	for _, x := range l {
		if isWhole(ty) {
			v.Ints = append(v.Ints, x.Num().Int64())
		} else {
			v.Nums = append(v.Nums, normal(x))
		}
	}
	return v
}

// isValidNum tells whether layer 6 takes a number.
func isValidNum(x api.Frac) bool {
	d := bigOfNat(x.D)
	return d.Sign() > 0 && areShort(d, bigOf(x.N))
}

// isValid is the chapter's word of values.
func isValid(v api.Value) bool {
	n, isFit := len(v.Nums), true
	if isWhole(v.Type) {
		n = len(v.Ints)
		isFit = len(v.Nums) == 0
	} else {
		isFit = len(v.Ints) == 0
	}
	for _, i := range v.Ints {
		isFit = isFit && i <= mostInt && i >= -mostInt
	}
	for _, x := range v.Nums {
		isFit = isFit && isValidNum(x) && isNormal(x)
	}
	switch v.Type {
	case api.TyInt, api.TyReal:
		return isFit && n == 1
	case api.TyVec, api.TyInts, api.TyReals:
		return isFit && n <= mostSize
	}
	return false
}

func modelOf(l []api.Value) *model {
	m := &model{}
	for _, v := range l {
		var nums []*big.Rat
		for _, n := range v.Ints {
			nums = append(nums, new(big.Rat).SetInt64(n))
		}
		for _, x := range v.Nums {
			nums = append(nums, ratOf(x))
		}
		m.add(v.Name, v.Type, nums)
	}
	return m
}

// modelCome is what Come has to return.
func modelCome(e api.Expr, l []api.Value) (api.Value, api.Fault) {
	if tree.CheckExpr(e) != api.OK {
		return api.Value{}, api.Fault{E: api.ErrTree}
	}
	if slices.ContainsFunc(l, func(v api.Value) bool { return !isValid(v) }) {
		return api.Value{}, api.Fault{E: api.ErrData}
	}
	m := modelOf(l)
	k, f := kind.Of(e, m.kinds)
	if f.E != api.OK {
		return api.Value{}, f
	}
	nums, f := m.come(e)
	if f.E != api.OK {
		return api.Value{}, f
	}
	return made("", k.Type, nums), api.Fault{}
}

// modelBind is what Bind has to return.
func modelBind(p api.Prog, data []api.Datum) ([]api.Value, api.Fault) {
	if f := kind.Check(p); f.E != api.OK {
		return nil, f
	}
	m := &model{}
	var out []api.Value
	for _, d := range p.Blocks[api.BkData].Decls {
		l, f := m.bind(d, data)
		if f.E != api.OK {
			return nil, f
		}
		m.add(d.Name, d.Type, l)
		out = append(out, made(d.Name, d.Type, l))
	}
	return out, api.Fault{}
}

// bind is what one declaration is bound to.
func (m *model) bind(d api.Decl, data []api.Datum) ([]*big.Rat, api.Fault) {
	n := int64(1)
	if len(d.Size) > 0 {
		l, f := m.come(d.Size[0])
		if f.E != api.OK {
			return nil, f
		}
		if n = l[0].Num().Int64(); n < 0 || n > mostSize {
			return nil, api.Fault{E: api.ErrRange, At: d.Size[0].At}
		}
	}
	i := slices.IndexFunc(data, func(x api.Datum) bool { return x.Name == d.Name })
	if i < 0 || !hasItem(d.Type, n, data[i]) {
		return nil, api.Fault{E: api.ErrData, At: d.At}
	}
	var l []*big.Rat
	for _, x := range data[i].Nums {
		l = append(l, ratOf(x))
	}
	if f := m.beside(d.At, l, -1, d.Lower); f.E != api.OK {
		return nil, f
	}
	if f := m.beside(d.At, l, 1, d.Upper); f.E != api.OK {
		return nil, f
	}
	return l, api.Fault{}
}

// hasItem tells whether an item has a value of a type, with so many numbers.
func hasItem(ty uint8, n int64, x api.Datum) bool {
	is := x.List == isRow(ty) && int64(len(x.Nums)) == n && (x.Whole || !isWhole(ty))
	for _, y := range x.Nums {
		is = is && isValidNum(y) && (!isWhole(ty) || isFitting(ratOf(y)))
	}
	return is
}

// beside looks for numbers that are on one side of a bound, if there is one.
func (m *model) beside(at int, l []*big.Rat, side int, bound []api.Expr) api.Fault {
	for _, e := range bound {
		b, f := m.come(e)
		if f.E != api.OK {
			return f
		}
		for _, x := range l {
			if x.Cmp(b[0]) == side {
				return api.Fault{E: api.ErrBound, At: at}
			}
		}
	}
	return api.Fault{}
}

// checkExpr holds what an expression comes to against the model, and its Type against layer 15.
func checkExpr(t *testing.T, e api.Expr, l []api.Value) (api.Value, api.Fault) {
	t.Helper()
	want, wantFault := modelCome(e, l)
	v, f := bind.Come(e, l)
	if told(v) != told(want) || f != wantFault || f.E != api.OK && !isNone(v) {
		t.Errorf("Come(%s) of %s = %s, %s, want %s, %s", shownExpr(e), cut(toldAll(l)), cut(told(v)), shownFault(f), cut(told(want)), shownFault(wantFault))
	}
	return v, f
}

// check holds what a program is bound to against the model. It returns the fault.
func check(t *testing.T, p api.Prog, data []api.Datum) ([]api.Value, api.Fault) {
	t.Helper()
	want, wantFault := modelBind(p, data)
	l, f := bind.Bind(p, data)
	if toldAll(l) != toldAll(want) || f != wantFault || f.E != api.OK && l != nil {
		t.Errorf("Bind(%s, %s) = %s, %s, want %s, %s", shownTree(p), shownData(data), cut(toldAll(l)), shownFault(f), cut(toldAll(want)), shownFault(wantFault))
	}
	if f.E == api.OK {
		follows(t, p, l)
	}
	return l, f
}
