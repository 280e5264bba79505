package elab_test

import (
	"math/big"
	"strconv"
	"strings"

	"stepstone/api"
	"stepstone/bind"
	"stepstone/chart"
	"stepstone/dist"
	"stepstone/frac"
	"stepstone/kind"
	"stepstone/tape"
)

// element is one of a variable: what tells an integer, a number of data, or a step; 0 is not set.
type element struct {
	what byte
	n    int64
	x    api.Frac
}

// slot is a variable in the model.
type slot struct {
	api.Var
	l []element
}

// model goes through a program by calls within calls. It asks layer 15 for each expression's type, and nothing is known from one time to the next.
type model struct {
	m      *tape.Maker
	slots  []slot
	block  int
	target int
	runs   int
	tells  []api.Tell
}

// modelOf is what Build has to return.
func modelOf(p api.Prog, data []api.Datum, budget int) (x api.Tape, f api.Fault) {
	if budget < 1 || budget > mostNodes {
		return x, api.Fault{E: api.ErrArg}
	}
	values, f := bind.Bind(p, data)
	if f != (api.Fault{}) {
		return x, f
	}
	defer func() {
		if r := recover(); r != nil {
			x, f = api.Tape{}, r.(api.Fault)
		}
	}()
	m := &model{}
	m.m, _ = tape.New(budget)
	m.target = m.num(0, frac.Of(0))
	for _, v := range values {
		s := slot{Var: api.Var{Name: v.Name, Type: v.Type}}
		for _, n := range v.Ints {
			s.l = append(s.l, element{what: 'n', n: n})
		}
		for _, x := range v.Nums {
			s.l = append(s.l, element{what: 'x', x: x})
		}
		m.slots = append(m.slots, s)
	}
	for i, b := range p.Blocks {
		m.block = i
		m.unroll(b)
	}
	x, _ = m.m.Tape(m.target, m.tells)
	return x, api.Fault{}
}

func fail(e api.Errno, at int) { panic(api.Fault{E: e, At: at}) }

func (m *model) ok(at, i int, e api.Errno) int {
	if e != api.OK {
		fail(e, at)
	}
	return i
}

func (m *model) num(at int, x api.Frac) int {
	i, e := m.m.Num(x)
	return m.ok(at, i, e)
}

func (m *model) one(at int, op uint8, a int) int {
	i, e := m.m.One(op, a)
	return m.ok(at, i, e)
}

func (m *model) two(at int, op uint8, a, b int) int {
	i, e := m.m.Two(op, a, b)
	return m.ok(at, i, e)
}

func (m *model) grow(at, by int) { m.target = m.two(at, api.NdAdd, m.target, by) }

func (m *model) slot(name string) *slot {
	var out *slot
	for i := range m.slots {
		if m.slots[i].Name == name {
			out = &m.slots[i]
		}
	}
	return out
}

func (m *model) typeOf(e api.Expr) uint8 {
	var vars []api.Var
	for _, s := range m.slots {
		vars = append(vars, s.Var)
	}
	k, f := kind.Of(e, vars)
	if f != (api.Fault{}) {
		panic("an expression has no type: " + shownFault(f))
	}
	return k.Type
}

func (m *model) isWhole(e api.Expr) bool {
	ty := m.typeOf(e)
	return ty == api.TyInt || ty == api.TyInts
}

func (m *model) isRow(e api.Expr) bool {
	ty := m.typeOf(e)
	return ty != api.TyInt && ty != api.TyReal
}

// index is where an element is.
func (m *model) index(e api.Expr, s *slot, at int) int {
	i := m.integers(e)[0]
	if i < 1 || i > int64(len(s.l)) {
		fail(api.ErrRange, at)
	}
	return int(i) - 1
}

// read is what elements are.
func (m *model) read(at int, l []element) []int64 {
	for _, x := range l {
		if x.what == 0 {
			fail(api.ErrUnset, at)
		}
	}
	var out []int64
	for _, x := range l {
		if x.what == 'x' {
			x.n = int64(m.num(at, x.x))
		}
		out = append(out, x.n)
	}
	return out
}

// named is what an ExName or an ExIndex is.
func (m *model) named(e api.Expr) []int64 {
	s := m.slot(e.Name)
	if e.Op == api.ExName {
		return m.read(e.At, s.l)
	}
	i := m.index(e.Kids[0], s, e.At)
	return m.read(e.At, s.l[i:i+1])
}

// integers are for expressions of TyInt and TyInts.
func (m *model) integers(e api.Expr) []int64 {
	var n int64
	switch {
	case e.Op == api.ExNum:
		n, _ = strconv.ParseInt(e.Name, 10, 64)
	case e.Op == api.ExName || e.Op == api.ExIndex:
		return m.named(e)
	case e.Op == api.ExNeg:
		n = -m.integers(e.Kids[0])[0]
	case e.Op == api.ExCall && e.Name == "sum":
		for _, x := range m.integers(e.Kids[0]) {
			n += x
		}
	case e.Op == api.ExCall:
		n = m.size(e.Kids[0])
	default:
		a := m.integers(e.Kids[0])[0]
		b := m.integers(e.Kids[1])[0]
		n = map[uint8]int64{api.ExAdd: a + b, api.ExSub: a - b, api.ExMul: a * b}[e.Op]
	}
	if n < -mostInt || n > mostInt {
		fail(api.ErrRange, e.At)
	}
	return []int64{n}
}

func (m *model) size(e api.Expr) int64 {
	if e.Op == api.ExName {
		return int64(len(m.slot(e.Name).l))
	}
	return int64(len(m.steps(e, e.At)))
}

// steps are an expression's; the number of one that is an integer is made at a place.
func (m *model) steps(e api.Expr, at int) []int {
	if m.isWhole(e) {
		return []int{m.num(at, frac.Of(m.integers(e)[0]))}
	}
	switch e.Op {
	case api.ExNum:
		x, errno := frac.Numeral(e.Name)
		if errno != api.OK {
			fail(api.ErrRange, e.At)
		}
		return []int{m.num(e.At, x)}
	case api.ExName, api.ExIndex:
		var out []int
		for _, i := range m.named(e) {
			out = append(out, int(i))
		}
		return out
	}
	var rows [][]int
	for _, k := range e.Kids {
		rows = append(rows, m.steps(k, e.At))
	}
	if len(rows) == 1 {
		return m.ofOne(e, rows[0])
	}
	return m.ofTwo(e, rows[0], rows[1])
}

func (m *model) ofOne(e api.Expr, row []int) []int {
	if e.Op == api.ExCall && e.Name == "sum" {
		out := m.num(e.At, frac.Of(0))
		for _, x := range row {
			out = m.two(e.At, api.NdAdd, out, x)
		}
		return []int{out}
	}
	var out []int
	for _, x := range row {
		switch {
		case e.Op == api.ExNeg:
			x = m.one(e.At, api.NdNeg, x)
		case e.Name == "square":
			x = m.two(e.At, api.NdMul, x, x)
		case e.Name == "inv_logit":
			one := m.num(e.At, frac.Of(1))
			neg := m.one(e.At, api.NdNeg, x)
			exp := m.one(e.At, api.NdExp, neg)
			x = m.two(e.At, api.NdDiv, one, m.two(e.At, api.NdAdd, one, exp))
		default:
			x = m.one(e.At, map[string]uint8{"exp": api.NdExp, "log": api.NdLog, "sqrt": api.NdRoot}[e.Name], x)
		}
		out = append(out, x)
	}
	return out
}

func (m *model) ofTwo(e api.Expr, a, b []int) []int {
	isRowA, isRowB := m.isRow(e.Kids[0]), m.isRow(e.Kids[1])
	if isRowA && isRowB && len(a) != len(b) {
		fail(api.ErrRange, e.At)
	}
	if e.Op == api.ExCall {
		out := m.num(e.At, frac.Of(0))
		for i := range a {
			out = m.two(e.At, api.NdAdd, out, m.two(e.At, api.NdMul, a[i], b[i]))
		}
		return []int{out}
	}
	op := map[uint8]uint8{api.ExAdd: api.NdAdd, api.ExSub: api.NdSub, api.ExMul: api.NdMul, api.ExDiv: api.NdDiv}[e.Op]
	var out []int
	switch {
	case isRowA && isRowB:
		for i := range a {
			out = append(out, m.two(e.At, op, a[i], b[i]))
		}
	case isRowA:
		for _, x := range a {
			out = append(out, m.two(e.At, op, x, b[0]))
		}
	case isRowB:
		for _, x := range b {
			out = append(out, m.two(e.At, op, a[0], x))
		}
	default:
		out = append(out, m.two(e.At, op, a[0], b[0]))
	}
	return out
}

// fitting is what a variable's elements become.
func (m *model) fitting(ty uint8, e api.Expr) []element {
	var out []element
	if ty == api.TyInt || ty == api.TyInts {
		for _, n := range m.integers(e) {
			out = append(out, element{what: 'n', n: n})
		}
		return out
	}
	for _, i := range m.steps(e, e.At) {
		out = append(out, element{what: 's', n: int64(i)})
	}
	return out
}

func (m *model) unroll(b api.Block) {
	for _, d := range b.Decls {
		if m.block != api.BkData {
			m.declare(d)
		}
	}
	m.list(b.Stmts)
	if m.block < api.BkPars {
		return
	}
	for _, d := range b.Decls {
		l := m.slot(d.Name).l
		for i, x := range l {
			if x.what == 0 {
				fail(api.ErrUnset, d.At)
			}
			name := d.Name
			if d.Type != api.TyReal {
				name = strings.Join([]string{name, "[", strconv.Itoa(i + 1), "]"}, "")
			}
			m.tells = append(m.tells, api.Tell{Name: name, At: int(x.n)})
		}
	}
}

func (m *model) declare(d api.Decl) {
	n := 1
	if len(d.Size) > 0 {
		size := m.integers(d.Size[0])[0]
		if size < 0 || size > mostSize {
			fail(api.ErrRange, d.Size[0].At)
		}
		n = int(size)
	}
	l := make([]element, n)
	if m.block == api.BkPars {
		bounds := []int{-1, -1}
		for i, side := range [][]api.Expr{d.Lower, d.Upper} {
			if len(side) > 0 {
				bounds[i] = m.steps(side[0], side[0].At)[0]
			}
		}
		for i := range l {
			u, e := m.m.Par()
			u = m.ok(d.At, u, e)
			x, j, e := chart.Put(m.m, u, bounds[0], bounds[1])
			l[i] = element{what: 's', n: int64(m.ok(d.At, x, e))}
			m.grow(d.At, j)
		}
	}
	if len(d.Init) > 0 {
		row := m.fitting(d.Type, d.Init[0])
		if len(row) != n {
			fail(api.ErrRange, d.At)
		}
		copy(l, row)
	}
	m.slots = append(m.slots, slot{api.Var{Name: d.Name, Type: d.Type, Block: m.block}, l})
}

func (m *model) list(l []api.Stmt) {
	for _, s := range l {
		m.execute(s)
	}
}

func (m *model) execute(s api.Stmt) {
	if m.runs++; m.runs > mostRuns {
		fail(api.ErrBudget, s.At)
	}
	switch s.Op {
	case api.StSet:
		m.set(s)
	case api.StAdd:
		m.grow(s.At, m.steps(s.Kids[0], s.Kids[0].At)[0])
	case api.StDist:
		m.distributed(s)
	case api.StFor:
		from := m.integers(s.Kids[0])[0]
		to := m.integers(s.Kids[1])[0]
		if len(s.Body) == 0 {
			return
		}
		outside := len(m.slots)
		for i := from; i <= to; i++ {
			m.slots = append(m.slots[:outside], slot{api.Var{Name: s.Name, Type: api.TyInt, Block: -1}, []element{{what: 'n', n: i}}})
			m.list(s.Body)
		}
		m.slots = m.slots[:outside]
	case api.StIf:
		c := s.Kids[0]
		a := m.integers(c.Kids[0])[0]
		b := m.integers(c.Kids[1])[0]
		if holds(c.Op, a, b) {
			m.list(s.Body)
		} else {
			m.list(s.Else)
		}
	case api.StBlock:
		m.list(s.Body)
	}
}

func holds(op uint8, a, b int64) bool {
	order := big.NewInt(a).Cmp(big.NewInt(b))
	return map[uint8]bool{api.ExEq: order == 0, api.ExNe: order != 0, api.ExLt: order < 0, api.ExLe: order <= 0, api.ExGt: order > 0, api.ExGe: order >= 0}[op]
}

func (m *model) set(s api.Stmt) {
	v := m.slot(s.Name)
	if len(s.Kids) == 2 {
		i := m.index(s.Kids[0], v, s.At)
		row := m.fitting(v.Type, s.Kids[1])
		v.l[i] = row[0]
		return
	}
	row := m.fitting(v.Type, s.Kids[0])
	if len(row) != len(v.l) {
		fail(api.ErrRange, s.At)
	}
	copy(v.l, row)
}

func (m *model) distributed(s api.Stmt) {
	_, discrete, _ := kind.Discrete(s.Name)
	var ks []int64
	var xs []int
	if discrete {
		ks = m.integers(s.Kids[0])
	} else {
		xs = m.steps(s.Kids[0], s.Kids[0].At)
	}
	var args [][]int
	for _, a := range s.Kids[1:] {
		args = append(args, m.steps(a, a.At))
	}
	n := len(ks) + len(xs)
	for i, a := range s.Kids[1:] {
		if m.isRow(a) && len(args[i]) != n {
			fail(api.ErrRange, s.At)
		}
	}
	for i := range n {
		var with []int
		for j, a := range s.Kids[1:] {
			if m.isRow(a) {
				with = append(with, args[j][i])
			} else {
				with = append(with, args[j][0])
			}
		}
		var step int
		var e api.Errno
		if discrete {
			step, e = dist.Count(m.m, s.Name, ks[i], with)
		} else {
			step, e = dist.Term(m.m, s.Name, xs[i], with)
		}
		m.grow(s.At, m.ok(s.At, step, e))
	}
}
