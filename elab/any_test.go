package elab_test

import (
	"math/rand/v2"
	"slices"
	"strconv"

	"stepstone/api"
)

func num(s string) api.Expr { return api.Expr{Op: api.ExNum, Name: s} }

func whole(n int64) api.Expr {
	if n < 0 {
		return of(api.ExNeg, num(strconv.FormatInt(-n, 10)))
	}
	return num(strconv.FormatInt(n, 10))
}

func name(s string) api.Expr { return api.Expr{Op: api.ExName, Name: s} }

func of(op uint8, kids ...api.Expr) api.Expr { return api.Expr{Op: op, Kids: kids} }

func call(s string, kids ...api.Expr) api.Expr {
	return api.Expr{Op: api.ExCall, Name: s, Kids: kids}
}

func indexed(s string, i api.Expr) api.Expr {
	return api.Expr{Op: api.ExIndex, Name: s, Kids: []api.Expr{i}}
}

// known is a variable, and what is known of it when a program is made: how many elements it has, whether all are set, from what to what an integer is.
type known struct {
	name     string
	ty       uint8
	size     int
	block    int
	isSet    bool
	low, top int64
}

func (v known) isPar() bool { return v.block >= api.BkPars }

// maker makes random valid programs with data. One call out of wild of what could go wrong does.
type maker struct {
	g     *rand.Rand
	wild  int
	vars  []known
	block int
	loops int
	data  []api.Datum
	// closed has what P22.4 needs: choices by what can be computed without a program.
	closed bool
}

func (m *maker) once(in int) bool { return m.g.IntN(in) == 0 }

func (m *maker) isWild() bool { return m.wild > 0 && m.once(m.wild) }

// pick is a variable that fits, mostly one that is set.
func (m *maker) pick(fits func(v known) bool) (known, bool) {
	unset := m.isWild()
	var l []known
	for _, v := range m.vars {
		if (v.isSet || unset) && fits(v) {
			l = append(l, v)
		}
	}
	if l == nil {
		return known{}, false
	}
	return oneOf(m.g, l...), true
}

// ask is what an expression must not be, and how deep it may be.
type ask struct {
	fixed bool
	depth int
}

func (a ask) below() ask { return ask{a.fixed, a.depth - 1} }

func (a ask) allows(v known) bool { return !(a.fixed && v.isPar()) }

func isRowType(ty uint8) bool { return ty != api.TyInt && ty != api.TyReal }

// index is an integer from 1 to n, if that is possible.
func (m *maker) index(n int) api.Expr {
	if m.isWild() || n == 0 {
		return m.integer(ask{depth: 2})
	}
	if v, is := m.pick(func(v known) bool { return v.ty == api.TyInt && v.low >= 1 && v.top <= int64(n) }); is && !m.once(3) {
		return name(v.name)
	}
	if v, is := m.pick(func(v known) bool { return isRowType(v.ty) && v.size == n }); is && m.once(4) {
		return call("size", name(v.name))
	}
	return whole(1 + int64(m.g.IntN(n)))
}

func (m *maker) integer(a ask) api.Expr {
	if a.depth > 0 {
		switch m.g.IntN(9) {
		case 0:
			return of(api.ExNeg, m.integer(a.below()))
		case 1, 2:
			return of(oneOf(m.g, api.ExAdd, api.ExSub, api.ExMul), m.integer(a.below()), m.integer(a.below()))
		case 3:
			if v, is := m.pick(func(v known) bool { return v.ty == api.TyInts }); is {
				return call("sum", name(v.name))
			}
		case 4:
			if v, is := m.pick(func(v known) bool { return v.ty == api.TyInts && v.size > 0 }); is {
				return indexed(v.name, m.index(v.size))
			}
		case 5:
			if e, is := m.counted(a); is {
				return call("size", e)
			}
		}
	}
	if v, is := m.pick(func(v known) bool { return v.ty == api.TyInt }); is && !m.once(3) {
		return name(v.name)
	}
	if m.isWild() {
		return num(oneOf(m.g, "999999999", "000000100", "46341", "65536"))
	}
	return num(oneOf(m.g, "0", "1", "2", "3", "02"))
}

// counted is any row: a name, set or not, or another one.
func (m *maker) counted(a ask) (api.Expr, bool) {
	if m.once(2) {
		a.fixed = false
		return m.vector(m.g.IntN(4), a.below())
	}
	var l []api.Expr
	for _, v := range m.vars {
		if isRowType(v.ty) {
			l = append(l, name(v.name))
		}
	}
	if l == nil {
		return api.Expr{}, false
	}
	return oneOf(m.g, l...), true
}

func (m *maker) scalar(a ask) api.Expr {
	if a.depth > 0 {
		switch m.g.IntN(14) {
		case 0:
			return m.integer(a.below())
		case 1:
			return of(api.ExNeg, m.scalar(a.below()))
		case 2, 3, 4, 5:
			return of(oneOf(m.g, api.ExAdd, api.ExSub, api.ExMul, api.ExDiv), m.scalar(a.below()), m.scalar(a.below()))
		case 6, 7:
			return call(oneOf(m.g, "exp", "log", "sqrt", "square", "inv_logit"), m.scalar(a.below()))
		case 8:
			if v, is := m.pick(func(v known) bool { return v.ty == api.TyReals && a.allows(v) }); is {
				return call("sum", name(v.name))
			}
		case 9:
			if e, is := m.vector(m.g.IntN(4), a.below()); is {
				return call("sum", e)
			}
		case 10:
			if e, is := m.dot(a); is {
				return e
			}
		}
	}
	if v, is := m.pick(func(v known) bool { return (v.ty == api.TyVec || v.ty == api.TyReals) && v.size > 0 && a.allows(v) }); is && m.once(3) {
		return indexed(v.name, m.index(v.size))
	}
	if v, is := m.pick(func(v known) bool { return v.ty == api.TyReal && a.allows(v) }); is && !m.once(3) {
		return name(v.name)
	}
	if m.once(2) {
		return m.integer(ask{a.fixed, 0})
	}
	return num(oneOf(m.g, "0.5", "1e-3", "1234567890", "2.0e2", "0.0", "0000000002", "1.5"))
}

func (m *maker) dot(a ask) (api.Expr, bool) {
	n := m.g.IntN(4)
	x, is := m.vector(n, a.below())
	if m.isWild() {
		n++
	}
	y, also := m.vector(n, a.below())
	return call("dot", x, y), is && also
}

func (m *maker) vector(n int, a ask) (api.Expr, bool) {
	if a.depth > 0 {
		x, is := m.vector(n, a.below())
		if !is {
			return x, false
		}
		switch m.g.IntN(9) {
		case 0:
			return of(api.ExNeg, x), true
		case 1, 2:
			if m.isWild() {
				n++
			}
			y, is := m.vector(n, a.below())
			if op := oneOf(m.g, api.ExAdd, api.ExSub); is {
				return of(op, x, y), true
			}
		case 3:
			return of(api.ExMul, x, m.scalar(a.below())), true
		case 4:
			return of(api.ExMul, m.scalar(a.below()), x), true
		case 5:
			return of(api.ExDiv, x, m.scalar(a.below())), true
		case 6:
			return call(oneOf(m.g, "exp", "log", "sqrt", "square", "inv_logit"), x), true
		}
		return x, true
	}
	v, is := m.pick(func(v known) bool { return v.ty == api.TyVec && v.size == n && a.allows(v) })
	return name(v.name), is
}

// item puts a variable of BkData and what it has.
func (m *maker) item(b *api.Block, s string, ty uint8, size int) {
	d := api.Decl{Type: ty, Name: s}
	v := known{name: s, ty: ty, size: 1, block: api.BkData, isSet: true}
	item := api.Datum{Name: s, List: isRowType(ty), Whole: ty == api.TyInt || ty == api.TyInts}
	if isRowType(ty) {
		v.size = size
		d.Size = []api.Expr{whole(int64(size))}
		if n, is := m.pick(func(v known) bool { return v.ty == api.TyInt && v.low == int64(size) && v.top == int64(size) }); is && m.once(2) {
			d.Size = []api.Expr{name(n.name)}
		}
	}
	for range v.size {
		n := int64(m.g.IntN(4))
		if item.Whole {
			item.Nums = append(item.Nums, ratio(n, 1))
			v.low, v.top = n, n
		} else {
			item.Nums = append(item.Nums, ratio(int64(m.g.IntN(9))-3, 1+int64(m.g.IntN(3))))
		}
	}
	if m.once(4) {
		d.Lower = []api.Expr{whole(-3)}
	}
	b.Decls, m.vars, m.data = append(b.Decls, d), append(m.vars, v), append(m.data, item)
}

func types() []uint8 {
	return []uint8{api.TyInt, api.TyReal, api.TyVec, api.TyInts, api.TyReals}
}

// size is one that an expression has, and that expression.
func (m *maker) size() (int, api.Expr) {
	if m.isWild() {
		return m.g.IntN(4), m.integer(ask{depth: 2})
	}
	if v, is := m.pick(func(v known) bool { return v.ty == api.TyInt && v.low == v.top && v.top >= 0 }); is && m.once(3) {
		return int(v.low), name(v.name)
	}
	n := m.g.IntN(4)
	if v, is := m.pick(func(v known) bool { return isRowType(v.ty) }); is && m.once(3) {
		return v.size, call("size", name(v.name))
	}
	return n, whole(int64(n))
}

func (m *maker) decl(s string, tys ...uint8) (api.Decl, known) {
	ty := oneOf(m.g, tys...)
	d, v := api.Decl{Type: ty, Name: s}, known{name: s, ty: ty, size: 1, block: m.block, low: 0, top: -1}
	if isRowType(ty) {
		n, e := m.size()
		d.Size, v.size = []api.Expr{e}, n
	}
	return d, v
}

func (m *maker) parameter(b *api.Block, s string) {
	d, v := m.decl(s, api.TyReal, api.TyVec, api.TyReals)
	if m.once(2) {
		d.Lower = []api.Expr{m.scalar(ask{true, m.g.IntN(3)})}
	}
	if m.once(2) {
		d.Upper = []api.Expr{m.scalar(ask{true, m.g.IntN(3)})}
	}
	v.isSet = true
	b.Decls, m.vars = append(b.Decls, d), append(m.vars, v)
}

// value is an expression by which a variable can be set, or, of an index, its element.
func (m *maker) value(v known, isElement bool) (api.Expr, bool) {
	a := ask{fixed: v.block < api.BkPars, depth: m.g.IntN(4)}
	switch {
	case v.ty == api.TyInt, v.ty == api.TyInts && isElement:
		return m.integer(a), true
	case v.ty == api.TyReal, isElement:
		return m.scalar(a), true
	case v.ty == api.TyVec:
		n := v.size
		if m.isWild() {
			n++
		}
		return m.vector(n, a)
	}
	return api.Expr{}, false
}

func (m *maker) declared(b *api.Block, s string) {
	tys := types()
	if m.block >= api.BkPars {
		tys = []uint8{api.TyReal, api.TyVec, api.TyReals}
	}
	d, v := m.decl(s, tys...)
	if e, is := m.value(v, false); is && m.once(2) {
		d.Init, v.isSet = []api.Expr{e}, true
	}
	b.Decls, m.vars = append(b.Decls, d), append(m.vars, v)
}

// fill are statements that set all of a variable.
func (m *maker) fill(v *known) []api.Stmt {
	e, is := m.value(*v, false)
	defer func() { v.isSet = !m.isWild() }()
	if is && m.once(2) || !isRowType(v.ty) {
		return []api.Stmt{{Op: api.StSet, Name: v.name, Kids: []api.Expr{e}}}
	}
	if m.once(3) && v.size < 3 {
		var out []api.Stmt
		for i := range v.size {
			x, _ := m.value(*v, true)
			out = append(out, api.Stmt{Op: api.StSet, Name: v.name, Kids: []api.Expr{whole(int64(i + 1)), x}})
		}
		return out
	}
	i := m.enter(1, int64(v.size))
	x, _ := m.value(*v, true)
	m.vars = m.vars[:len(m.vars)-1]
	body := []api.Stmt{{Op: api.StSet, Name: v.name, Kids: []api.Expr{name(i), x}}}
	return []api.Stmt{{Op: api.StFor, Name: i, Kids: []api.Expr{whole(1), whole(int64(v.size))}, Body: body}}
}

// enter begins a loop.
func (m *maker) enter(low, top int64) string {
	s := "i" + strconv.Itoa(len(m.vars))
	m.vars = append(m.vars, known{name: s, ty: api.TyInt, size: 1, block: -1, isSet: true, low: low, top: top})
	return s
}

func (m *maker) stmts(depth int) []api.Stmt {
	var out []api.Stmt
	for range m.g.IntN(4) {
		out = append(out, m.stmt(depth)...)
	}
	return out
}

func (m *maker) stmt(depth int) []api.Stmt {
	if depth > 0 {
		switch m.g.IntN(6) {
		case 0:
			return []api.Stmt{m.loop(depth - 1)}
		case 1:
			a, b := m.compared(), m.compared()
			c := of(oneOf(m.g, api.ExEq, api.ExNe, api.ExLt, api.ExLe, api.ExGt, api.ExGe), a, b)
			return []api.Stmt{{Op: api.StIf, Kids: []api.Expr{c}, Body: m.stmts(depth - 1), Else: m.stmts(depth - 1)}}
		case 2:
			return []api.Stmt{{Op: api.StBlock, Body: m.stmts(depth - 1)}}
		}
	}
	if m.block == api.BkModel {
		return m.term()
	}
	return m.assignment()
}

func (m *maker) compared() api.Expr {
	if !m.closed {
		return m.integer(ask{depth: m.g.IntN(3)})
	}
	if v, is := m.pick(func(v known) bool { return v.ty == api.TyInt && v.block <= api.BkData }); is && !m.once(3) {
		return of(api.ExAdd, name(v.name), num("1"))
	}
	return whole(int64(m.g.IntN(4)))
}

func (m *maker) loop(depth int) api.Stmt {
	low := int64(m.g.IntN(3))
	top := low + int64(m.g.IntN(4)) - 1
	from, to := whole(low), whole(top)
	if m.isWild() {
		to = m.integer(ask{depth: 1})
	}
	i := m.enter(low, top)
	body := m.stmts(depth)
	m.vars = m.vars[:len(m.vars)-1]
	return api.Stmt{Op: api.StFor, Name: i, Kids: []api.Expr{from, to}, Body: body}
}

// assignment sets some variable of this block, or an element.
func (m *maker) assignment() []api.Stmt {
	var l []known
	for _, v := range m.vars {
		if v.block == m.block {
			l = append(l, v)
		}
	}
	if l == nil {
		return []api.Stmt{{Op: api.StBlock}}
	}
	v := oneOf(m.g, l...)
	if isRowType(v.ty) && m.once(2) {
		e, _ := m.value(v, true)
		return []api.Stmt{{Op: api.StSet, Name: v.name, Kids: []api.Expr{m.index(v.size), e}}}
	}
	if e, is := m.value(v, false); is {
		return []api.Stmt{{Op: api.StSet, Name: v.name, Kids: []api.Expr{e}}}
	}
	return nil
}

// distribution has some arguments, the first ones fixed.
type distribution struct {
	name        string
	args, fixed int
	isDiscrete  bool
}

func distributions() []distribution {
	return []distribution{
		{"normal", 2, 0, false}, {"cauchy", 2, 0, false}, {"uniform", 2, 0, false}, {"lognormal", 2, 0, false},
		{"gamma", 2, 1, false}, {"beta", 2, 2, false}, {"exponential", 1, 0, false},
		{"bernoulli", 1, 0, true}, {"bernoulli_logit", 1, 0, true}, {"poisson", 1, 0, true}, {"poisson_log", 1, 0, true},
	}
}

func (m *maker) term() []api.Stmt {
	a := ask{depth: m.g.IntN(4)}
	if m.once(2) {
		return []api.Stmt{{Op: api.StAdd, Kids: []api.Expr{m.scalar(a)}}}
	}
	d := oneOf(m.g, distributions()...)
	e, n := m.drawn(d)
	kids := []api.Expr{e}
	for i := range d.args {
		x := m.scalar(ask{i < d.fixed, m.g.IntN(3)})
		if n >= 0 && m.isWild() {
			n++
		}
		if row, is := m.rowArgument(n); is && i >= d.fixed && m.once(2) {
			x = row
		}
		kids = append(kids, x)
	}
	return []api.Stmt{{Op: api.StDist, Name: d.name, Kids: kids}}
}

// drawn is what has a distribution, and how many elements it has: -1 for a scalar.
func (m *maker) drawn(d distribution) (api.Expr, int) {
	if d.isDiscrete {
		if v, is := m.pick(func(v known) bool { return v.ty == api.TyInts }); is && m.once(2) {
			return name(v.name), v.size
		}
		return m.integer(ask{depth: 2}), -1
	}
	if v, is := m.pick(func(v known) bool { return v.ty == api.TyReals }); is && m.once(4) {
		return name(v.name), v.size
	}
	n := m.g.IntN(4)
	if e, is := m.vector(n, ask{depth: m.g.IntN(3)}); is && m.once(2) {
		return e, n
	}
	return m.scalar(ask{depth: 2}), -1
}

func (m *maker) rowArgument(n int) (api.Expr, bool) {
	if v, is := m.pick(func(v known) bool { return v.ty == api.TyReals && v.size == n }); is && m.once(3) {
		return name(v.name), true
	}
	return m.vector(n, ask{depth: m.g.IntN(2)})
}

// prog makes a program with data.
func (m *maker) prog() (api.Prog, []api.Datum) {
	var p api.Prog
	next := 0
	fresh := func() string { next++; return "x" + strconv.Itoa(next) }
	for i := range p.Blocks {
		b := &p.Blocks[i]
		if m.block, b.Is = i, !m.once(8); !b.Is {
			continue
		}
		switch i {
		case api.BkData:
			for range m.g.IntN(6) {
				m.item(b, fresh(), oneOf(m.g, types()...), m.g.IntN(4))
			}
		case api.BkPars:
			for range m.g.IntN(4) {
				m.parameter(b, fresh())
			}
		case api.BkModel:
			b.Stmts = m.stmts(3)
		default:
			m.made(b, fresh)
		}
	}
	return placed(m.g, p), m.data
}

func (m *maker) made(b *api.Block, fresh func() string) {
	for range m.g.IntN(4) {
		m.declared(b, fresh())
	}
	for i := range m.vars {
		if v := &m.vars[i]; v.block == m.block && !v.isSet {
			b.Stmts = append(b.Stmts, m.fill(v)...)
		}
	}
	b.Stmts = append(b.Stmts, m.stmts(2)...)
}

// newMaker makes programs of which most have no fault, or, by wild, many.
func newMaker(g *rand.Rand, wild int) *maker { return &maker{g: g, wild: wild} }

// placer gives each part of a program a place of its own.
type placer struct{ left []int }

func (l *placer) next() int {
	at := l.left[0]
	l.left = l.left[1:]
	return at
}

func (l *placer) exprs(kids []api.Expr) []api.Expr {
	var out []api.Expr
	for _, e := range kids {
		e.At = l.next()
		e.Kids = l.exprs(e.Kids)
		out = append(out, e)
	}
	return out
}

func (l *placer) stmts(stmts []api.Stmt) []api.Stmt {
	var out []api.Stmt
	for _, s := range stmts {
		s.At = l.next()
		s.Kids, s.Body, s.Else = l.exprs(s.Kids), l.stmts(s.Body), l.stmts(s.Else)
		out = append(out, s)
	}
	return out
}

func (l *placer) prog(p api.Prog) api.Prog {
	for i := range p.Blocks {
		b := &p.Blocks[i]
		decls := slices.Clone(b.Decls)
		for j := range decls {
			d := &decls[j]
			d.At = l.next()
			d.Size, d.Lower, d.Upper, d.Init = l.exprs(d.Size), l.exprs(d.Lower), l.exprs(d.Upper), l.exprs(d.Init)
		}
		b.Decls, b.Stmts = decls, l.stmts(b.Stmts)
	}
	return p
}

func placed(g *rand.Rand, p api.Prog) api.Prog {
	l := placer{g.Perm(20000)}
	return l.prog(p)
}
