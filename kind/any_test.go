package kind_test

import (
	"math/rand/v2"
	"slices"
	"strconv"

	"stepstone/api"
)

func oneOf[T any](g *rand.Rand, l ...T) T { return l[g.IntN(len(l))] }

// maker makes random programs that are valid: it puts expressions together by their types, from the top down.
type maker struct {
	g     *rand.Rand
	vars  []api.Var
	block int
}

// want is what an expression has to be.
type want struct {
	ty             uint8
	isFixed        bool // it must not depend on parameters
	isExact        bool // it must not call what data can't compute
	depth, inSizes int
}

func (w want) of(ty uint8) want {
	w.ty, w.depth = ty, w.depth-1
	return w
}

// below is for an index, and for what is in a call of size.
func (w want) count() want {
	w = w.of(api.TyInt)
	w.isFixed = true
	return w
}

func (w want) inSize(ty uint8) want {
	w = w.of(ty)
	w.isFixed = false
	return w
}

// variable is the name of one that is of a type.
func (m *maker) variable(w want) (string, bool) {
	var fit []string
	for _, v := range m.vars {
		if v.Type == w.ty && !(w.isFixed && v.Par) {
			fit = append(fit, v.Name)
		}
	}
	if fit == nil {
		return "", false
	}
	return oneOf(m.g, fit...), true
}

// expr makes one, if there can be one.
func (m *maker) expr(w want) (api.Expr, bool) {
	for range 4 {
		if w.depth > 0 && m.g.IntN(4) > 0 {
			if e, is := m.deeper(w); is {
				return e, true
			}
		}
		if s, is := m.variable(w); is {
			return name(s), true
		}
	}
	switch w.ty {
	case api.TyInt:
		return num(oneOf(m.g, "0", "1", "2", "17", "999999999")), true
	case api.TyReal:
		return num(oneOf(m.g, "0.5", "1e-3", "1234567890", "2.0e2")), true
	}
	return api.Expr{}, false
}

func (m *maker) deeper(w want) (api.Expr, bool) {
	switch w.ty {
	case api.TyInt:
		return m.integer(w)
	case api.TyReal:
		return m.real(w)
	case api.TyVec:
		return m.vector(w)
	}
	return api.Expr{}, false
}

// put makes an expression of kids, if there are all.
func (m *maker) put(op uint8, s string, kids ...want) (api.Expr, bool) {
	e := api.Expr{Op: op, Name: s}
	for _, w := range kids {
		k, is := m.expr(w)
		if !is {
			return api.Expr{}, false
		}
		e.Kids = append(e.Kids, k)
	}
	return e, true
}

func (m *maker) element(w want, ty uint8) (api.Expr, bool) {
	s, is := m.variable(w.of(ty))
	if !is {
		return api.Expr{}, false
	}
	return m.put(api.ExIndex, s, w.count())
}

func (m *maker) integer(w want) (api.Expr, bool) {
	switch m.g.IntN(5) {
	case 0:
		return m.element(w, api.TyInts)
	case 1:
		return m.put(api.ExNeg, "", w.of(api.TyInt))
	case 2:
		return m.put(api.ExCall, "sum", w.of(api.TyInts))
	case 3:
		return m.put(api.ExCall, "size", w.inSize(oneOf(m.g, api.TyVec, api.TyInts, api.TyReals)))
	}
	return m.put(oneOf(m.g, api.ExAdd, api.ExSub, api.ExMul), "", w.of(api.TyInt), w.of(api.TyInt))
}

// each is a function that an expression may call of a scalar, or a vector.
func (m *maker) each(w want) string {
	if w.isExact {
		return "square"
	}
	return oneOf(m.g, "exp", "log", "sqrt", "square", "inv_logit")
}

func (m *maker) real(w want) (api.Expr, bool) {
	scalar := oneOf(m.g, api.TyInt, api.TyReal)
	switch m.g.IntN(7) {
	case 0:
		return m.element(w, oneOf(m.g, api.TyVec, api.TyReals))
	case 1:
		return m.put(api.ExNeg, "", w.of(api.TyReal))
	case 2:
		return m.put(api.ExCall, "sum", w.of(oneOf(m.g, api.TyVec, api.TyReals)))
	case 3:
		return m.put(api.ExCall, "dot", w.of(api.TyVec), w.of(api.TyVec))
	case 4:
		return m.put(api.ExCall, m.each(w), w.of(scalar))
	case 5:
		return m.put(api.ExDiv, "", w.of(scalar), w.of(oneOf(m.g, api.TyInt, api.TyReal)))
	}
	kids := []want{w.of(api.TyReal), w.of(scalar)}
	if m.g.IntN(2) == 0 {
		slices.Reverse(kids)
	}
	return m.put(oneOf(m.g, api.ExAdd, api.ExSub, api.ExMul), "", kids...)
}

func (m *maker) vector(w want) (api.Expr, bool) {
	scalar := oneOf(m.g, api.TyInt, api.TyReal)
	switch m.g.IntN(5) {
	case 0:
		return m.put(api.ExNeg, "", w.of(api.TyVec))
	case 1:
		return m.put(api.ExCall, m.each(w), w.of(api.TyVec))
	case 2:
		return m.put(oneOf(m.g, api.ExAdd, api.ExSub), "", w.of(api.TyVec), w.of(api.TyVec))
	case 3:
		return m.put(api.ExMul, "", w.of(scalar), w.of(api.TyVec))
	}
	return m.put(oneOf(m.g, api.ExMul, api.ExDiv), "", w.of(api.TyVec), w.of(scalar))
}

func (m *maker) wants(l ...uint8) want {
	return want{ty: oneOf(m.g, l...), depth: m.g.IntN(4)}
}

// must makes a scalar, which there always is.
func (m *maker) must(w want) api.Expr {
	e, _ := m.expr(w)
	return e
}

// one is a list of an expression, if there is one.
func (m *maker) one(w want) []api.Expr {
	if e, is := m.expr(w); is {
		return exprs(e)
	}
	return nil
}

// newName is one that no variable has.
func (m *maker) newName() string {
	for {
		s := oneOf(m.g, "a", "b", "n", "x", "sum", "normal", "size") + strconv.Itoa(m.g.IntN(30))
		if m.g.IntN(3) == 0 {
			s = oneOf(m.g, "a", "b", "c", "n", "x", "y", "exp", "size", "normal", "e")
		}
		if !slices.ContainsFunc(m.vars, func(v api.Var) bool { return v.Name == s }) {
			return s
		}
	}
}

func (m *maker) decl() api.Decl {
	least := api.TyInt
	d := api.Decl{Type: least + uint8(m.g.IntN(5)), Name: m.newName()}
	if m.block >= api.BkPars {
		d.Type = oneOf(m.g, api.TyReal, api.TyVec, api.TyReals)
	}
	fixed := want{ty: api.TyInt, isFixed: true, depth: m.g.IntN(4)}
	if d.Type >= api.TyVec {
		d.Size = m.one(fixed)
	}
	if fixed.isExact = m.block == api.BkData; m.block == api.BkData || m.block == api.BkPars {
		if !isWhole(d.Type) {
			fixed.ty = oneOf(m.g, api.TyInt, api.TyReal)
		}
		if m.g.IntN(3) == 0 {
			d.Lower = m.one(fixed)
		}
		if m.g.IntN(3) == 0 {
			d.Upper = m.one(fixed)
		}
	} else if d.Type <= api.TyVec && m.g.IntN(2) == 0 {
		d.Init = m.one(m.fitting(d.Type))
	}
	m.vars = append(m.vars, api.Var{Name: d.Name, Type: d.Type, Block: m.block, Par: m.block >= api.BkPars})
	return d
}

// fitting is what a variable of a type may be set to.
func (m *maker) fitting(ty uint8) want {
	if ty == api.TyReal {
		return m.wants(api.TyInt, api.TyReal)
	}
	return m.wants(ty)
}

func (m *maker) stmts(depth int) []api.Stmt {
	var out []api.Stmt
	for range m.g.IntN(5) {
		if s, is := m.stmt(depth); is {
			out = append(out, s)
		}
	}
	return out
}

func (m *maker) stmt(depth int) (api.Stmt, bool) {
	n := 6
	if depth == 0 {
		n = 3
	}
	switch m.g.IntN(n) {
	case 3:
		return m.loop(depth), true
	case 4:
		count := want{ty: api.TyInt, isFixed: true, depth: 2}
		comparison := api.Expr{Op: api.ExEq + uint8(m.g.IntN(6)), Kids: exprs(m.must(count), m.must(count))}
		return api.Stmt{Op: api.StIf, Kids: exprs(comparison), Body: m.stmts(depth - 1), Else: m.stmts(depth - 1)}, true
	case 5:
		return api.Stmt{Op: api.StBlock, Body: m.stmts(depth - 1)}, true
	}
	switch {
	case m.block != api.BkModel:
		return m.set()
	case m.g.IntN(2) == 0:
		return term(m.must(m.wants(api.TyInt, api.TyReal))), true
	}
	return m.dist()
}

func (m *maker) loop(depth int) api.Stmt {
	count := want{ty: api.TyInt, isFixed: true, depth: 2}
	s := api.Stmt{Op: api.StFor, Name: m.newName(), Kids: exprs(m.must(count), m.must(count))}
	n := len(m.vars)
	m.vars = append(m.vars, api.Var{Name: s.Name, Type: api.TyInt, Block: -1})
	s.Body = m.stmts(depth - 1)
	m.vars = m.vars[:n]
	return s
}

func (m *maker) set() (api.Stmt, bool) {
	var mine []api.Var
	for _, v := range m.vars {
		if v.Block == m.block {
			mine = append(mine, v)
		}
	}
	if mine == nil {
		return api.Stmt{}, false
	}
	v := oneOf(m.g, mine...)
	s := api.Stmt{Op: api.StSet, Name: v.Name}
	ty := v.Type
	if ty >= api.TyInts || ty == api.TyVec && m.g.IntN(2) == 0 {
		s.Kids = exprs(m.must(want{ty: api.TyInt, isFixed: true, depth: 2}))
		ty = elementOf(ty)
	}
	l := m.one(m.fitting(ty))
	s.Kids = append(s.Kids, l...)
	return s, len(l) > 0
}

func (m *maker) dist() (api.Stmt, bool) {
	d := oneOf(m.g, distributions()...)
	p := published()[d]
	ty := oneOf(m.g, api.TyInt, api.TyReal, api.TyVec, api.TyReals)
	if p.isDiscrete {
		ty = oneOf(m.g, api.TyInt, api.TyInts)
	}
	value := m.one(m.wants(ty))
	s := api.Stmt{Op: api.StDist, Name: d, Kids: value}
	for i := range p.args {
		w := m.wants(api.TyInt, api.TyReal)
		if i < p.marked {
			w.isFixed = true
		} else if ty >= api.TyVec && m.g.IntN(2) == 0 {
			w.ty = oneOf(m.g, api.TyVec, api.TyReals)
		}
		s.Kids = append(s.Kids, m.one(w)...)
	}
	return s, len(value) == 1 && len(s.Kids) == p.args+1
}

// prog makes a program, of which all parts have places of their own.
func (m *maker) prog() api.Prog {
	var p api.Prog
	m.vars = nil
	for i := range p.Blocks {
		if m.g.IntN(6) == 0 {
			continue
		}
		m.block = i
		b := api.Block{Is: true}
		if i != api.BkModel {
			for range m.g.IntN(6) {
				b.Decls = append(b.Decls, m.decl())
			}
		}
		if i != api.BkData && i != api.BkPars {
			b.Stmts = m.stmts(3)
		}
		p.Blocks[i] = b
	}
	return placed(p)
}

// Random trees, whatever their types are.

func anyExpr(g *rand.Rand, depth int) api.Expr {
	s := oneOf(g, "n", "r", "v", "k", "y", "N", "R", "V", "K", "Y", "n", "v", "k", "x")
	if depth <= 0 || g.IntN(6) == 0 {
		return oneOf(g, num("1"), num("1.5"), num("1234567890"), name(s), name(s), name(s))
	}
	a, b := anyExpr(g, depth-1), anyExpr(g, depth-1)
	switch op := oneOf(g, api.ExIndex, api.ExCall, api.ExNeg, api.ExAdd, api.ExSub, api.ExMul, api.ExDiv); op {
	case api.ExIndex:
		return ex(op, s, a)
	case api.ExCall:
		f := oneOf(g, functions()...)
		if f == "dot" {
			return ex(op, f, a, b)
		}
		return ex(op, f, a)
	case api.ExNeg:
		return ex(op, "", a)
	default:
		return ex(op, "", a, b)
	}
}
