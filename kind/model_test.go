package kind_test

import (
	"regexp"
	"slices"
	"strings"
	"sync"
	"testing"

	"stepstone/api"
	"stepstone/kind"
	"stepstone/tree"
)

// The chapter's table, with each combination of kids that has a Type.
const chapter = `
index: ints=int vector=real reals=real
neg: int=int real=real vector=vector
add: int,int=int int,real=real real,int=real real,real=real vector,vector=vector
sub: int,int=int int,real=real real,int=real real,real=real vector,vector=vector
mul: int,int=int int,real=real real,int=real real,real=real vector,int=vector vector,real=vector int,vector=vector real,vector=vector
div: int,int=real int,real=real real,int=real real,real=real vector,int=vector vector,real=vector
exp: int=real real=real vector=vector
log: int=real real=real vector=vector
sqrt: int=real real=real vector=vector
square: int=real real=real vector=vector
inv_logit: int=real real=real vector=vector
sum: ints=int vector=real reals=real
dot: vector,vector=real
size: vector=int ints=int reals=int
`

// Its distributions: how many arguments there are; what is marked, and whether it is discrete.
const chapterDistributions = `
normal 2
cauchy 2
uniform 2
lognormal 2
gamma 2 first
beta 2 both
exponential 1
bernoulli 1 discrete
bernoulli_logit 1 discrete
poisson 1 discrete
poisson_log 1 discrete
`

var words = [...]string{api.TyInt: "int", api.TyReal: "real", api.TyVec: "vector", api.TyInts: "ints", api.TyReals: "reals"}

var opWords = [...]string{api.ExNeg: "neg", api.ExAdd: "add", api.ExSub: "sub", api.ExMul: "mul", api.ExDiv: "div"}

// word is that of a type; of what is none it is one that is in no table.
func word(ty uint8) string {
	if int(ty) < len(words) {
		return words[ty]
	}
	return "?"
}

func typeOf(word string) uint8 { return uint8(max(0, slices.Index(words[:], word))) }

// table is what the types of kids lead to, by what they are kids of.
type table map[string]map[string]string

var newTable = sync.OnceValue(func() table {
	out := table{}
	for line := range strings.Lines(strings.TrimSpace(chapter)) {
		key, row, _ := strings.Cut(strings.TrimSpace(line), ": ")
		out[key] = map[string]string{}
		for x := range strings.FieldsSeq(row) {
			kids, result, _ := strings.Cut(x, "=")
			out[key][kids] = result
		}
	}
	return out
})

var newDists = sync.OnceValue(func() map[string][]string {
	out := map[string][]string{}
	for line := range strings.Lines(strings.TrimSpace(chapterDistributions)) {
		l := strings.Fields(line)
		out[l[0]] = l[1:]
	}
	return out
})

var whole = regexp.MustCompile(`^\d{1,9}$`)

// env is the variables that exist: the last one, and those before it.
type env struct {
	v  api.Var
	up *env
}

func (e *env) find(name string) *api.Var {
	for ; e != nil; e = e.up {
		if e.v.Name == name {
			return &e.v
		}
	}
	return nil
}

// model is the chapter in another way: calls within calls that go on behind a fault, and list all of them. What it says behind the first one does not matter.
type model struct {
	table  table
	dists  map[string][]string
	env    *env
	block  int
	vars   []api.Var
	faults []api.Fault
}

func newModel(vars []api.Var) *model {
	m := &model{table: newTable(), dists: newDists()}
	for _, v := range vars {
		m.env = &env{v, m.env}
	}
	return m
}

func (m *model) must(is bool, e api.Errno, at int) {
	if !is {
		m.faults = append(m.faults, api.Fault{E: e, At: at})
	}
}

func (m *model) first() api.Fault {
	if len(m.faults) > 0 {
		return m.faults[0]
	}
	return api.Fault{}
}

// variable is one that exists, or a fault, and one that has nothing.
func (m *model) variable(name string, at int) api.Var {
	v := m.env.find(name)
	m.must(v != nil, api.ErrName, at)
	if v == nil {
		return api.Var{Block: -7}
	}
	return *v
}

// expr returns the word of the Type, and whether it is Par.
func (m *model) expr(e api.Expr) (string, bool) {
	var kids []string
	par := false
	for _, k := range e.Kids {
		w, p := m.expr(k)
		kids = append(kids, w)
		par = par || p
	}
	key := e.Name
	switch e.Op {
	case api.ExNum:
		if whole.MatchString(e.Name) {
			return "int", false
		}
		return "real", false
	case api.ExName:
		v := m.variable(e.Name, e.At)
		return word(v.Type), v.Par
	case api.ExIndex:
		v := m.variable(e.Name, e.At)
		return m.element(v, e.At, kids[0], par, e.Kids[0].At), v.Par
	case api.ExCall:
		m.must(m.table[key] != nil && key != "index" && slices.Index(opWords[:], key) < 0, api.ErrName, e.At)
	default:
		key = opWords[e.Op]
	}
	w := m.table[key][strings.Join(kids, ",")]
	m.must(w != "", api.ErrType, e.At)
	return w, par && key != "size"
}

func (m *model) element(v api.Var, at int, index string, par bool, indexAt int) string {
	w := m.table["index"][word(v.Type)]
	m.must(w != "", api.ErrType, at)
	m.must(index == "int", api.ErrType, indexAt)
	m.must(!par, api.ErrLevel, indexAt)
	return w
}

// needs checks an expression that must have one of some types, and may have to be not Par. It returns the Type's word.
func (m *model) needs(e api.Expr, among string, fixed bool) string {
	w, par := m.expr(e)
	m.must(w != "" && strings.Contains(" "+among+" ", " "+w+" "), api.ErrType, e.At)
	m.must(!fixed || !par, api.ErrLevel, e.At)
	return w
}

func (m *model) decl(d api.Decl) {
	m.must(m.env.find(d.Name) == nil, api.ErrDouble, d.At)
	isWhole := d.Type == api.TyInt || d.Type == api.TyInts
	m.must(!isWhole || m.block < 2, api.ErrType, d.At)
	if len(d.Size) > 0 {
		m.needs(d.Size[0], "int", true)
	}
	bounds := "int real"
	if isWhole {
		bounds = "int"
	}
	for _, e := range slices.Concat(d.Lower, d.Upper) {
		m.must(m.block == 0 || m.block == 2, api.ErrType, e.At)
		w, par := m.expr(e)
		m.must(w != "" && strings.Contains(bounds, w), api.ErrType, e.At)
		if m.block == 0 {
			m.exact(e)
		}
		m.must(!par, api.ErrLevel, e.At)
	}
	if len(d.Init) > 0 {
		m.needs(d.Init[0], m.fitting(words[d.Type]), false)
	}
	v := api.Var{Name: d.Name, Type: d.Type, Block: m.block, Par: m.block >= 2}
	m.vars = append(m.vars, v)
	m.env = &env{v, m.env}
}

func (m *model) exact(e api.Expr) {
	for _, k := range e.Kids {
		m.exact(k)
	}
	m.must(e.Op != api.ExCall || !slices.Contains([]string{"exp", "log", "sqrt", "inv_logit"}, e.Name), api.ErrType, e.At)
}

func (m *model) fitting(w string) string {
	return map[string]string{"int": "int", "real": "int real", "vector": "vector"}[w]
}

func (m *model) stmts(l []api.Stmt) {
	for _, s := range l {
		m.stmt(s)
	}
}

func (m *model) stmt(s api.Stmt) {
	before := m.env
	switch s.Op {
	case api.StSet:
		m.set(s)
	case api.StAdd:
		m.must(m.block == 4, api.ErrType, s.At)
		m.needs(s.Kids[0], "int real", false)
	case api.StDist:
		m.dist(s)
	case api.StFor:
		m.must(m.env.find(s.Name) == nil, api.ErrDouble, s.At)
		m.needs(s.Kids[0], "int", true)
		m.needs(s.Kids[1], "int", true)
		m.env = &env{api.Var{Name: s.Name, Type: api.TyInt, Block: -1}, m.env}
	case api.StIf:
		m.needs(s.Kids[0].Kids[0], "int", true)
		m.needs(s.Kids[0].Kids[1], "int", true)
	}
	m.stmts(s.Body)
	m.stmts(s.Else)
	m.env = before
}

func (m *model) set(s api.Stmt) {
	v := m.variable(s.Name, s.At)
	m.must(v.Block == m.block, api.ErrType, s.At)
	w := word(v.Type)
	value := s.Kids[0]
	if len(s.Kids) == 2 {
		index, par := m.expr(s.Kids[0])
		w = m.element(v, s.At, index, par, s.Kids[0].At)
		value = s.Kids[1]
	}
	got, _ := m.expr(value)
	m.must(slices.Contains(strings.Fields(m.fitting(w)), got), api.ErrType, s.At)
}

func (m *model) dist(s api.Stmt) {
	m.must(m.block == 4, api.ErrType, s.At)
	d := m.dists[s.Name]
	m.must(d != nil, api.ErrName, s.At)
	if d == nil {
		return
	}
	m.must(d[0] == []string{"0", "1", "2", "3", "4", "5", "6"}[min(6, len(s.Kids)-1)], api.ErrType, s.At)
	note := strings.Join(d[1:], "")
	values := "int real vector reals"
	if note == "discrete" {
		values = "int ints"
	}
	value := m.needs(s.Kids[0], values, false)
	for i, e := range s.Kids[1:] {
		isMarked := note == "both" || note == "first" && i == 0
		among := "int real"
		if !isMarked && value != "int" && value != "real" {
			among += " vector reals"
		}
		m.needs(e, among, isMarked)
	}
}

func (m *model) prog(p api.Prog) {
	for i, b := range p.Blocks {
		m.block = i
		for _, d := range b.Decls {
			m.decl(d)
		}
		m.stmts(b.Stmts)
	}
}

// modelCheck is what Check and Vars have to return.
func modelCheck(p api.Prog) ([]api.Var, api.Fault) {
	if tree.Check(p) != api.OK {
		return nil, api.Fault{E: api.ErrTree}
	}
	m := newModel(nil)
	m.prog(p)
	if f := m.first(); f.E != api.OK {
		return nil, f
	}
	return m.vars, api.Fault{}
}

// modelOf is what Of has to return.
func modelOf(e api.Expr, vars []api.Var) (api.Kind, api.Fault) {
	if tree.CheckExpr(e) != api.OK {
		return api.Kind{}, api.Fault{E: api.ErrTree}
	}
	m := newModel(vars)
	w, par := m.expr(e)
	if f := m.first(); f.E != api.OK {
		return api.Kind{}, f
	}
	return api.Kind{Type: typeOf(w), Par: par}, api.Fault{}
}

// check holds a program against the model. It returns the fault.
func check(t *testing.T, p api.Prog) api.Fault {
	t.Helper()
	vars, want := modelCheck(p)
	f := kind.Check(p)
	if f != want {
		t.Errorf("Check(%s): %s, want %s", shownTree(p), shownFault(f), shownFault(want))
	}
	if got := kind.Vars(p); !slices.Equal(got, vars) {
		t.Errorf("Vars(%s) = %v, want %v", shownTree(p), got, vars)
	}
	return f
}

// checkExpr is the same of an expression.
func checkExpr(t *testing.T, e api.Expr, vars []api.Var) (api.Kind, api.Fault) {
	t.Helper()
	want, wantFault := modelOf(e, vars)
	k, f := kind.Of(e, vars)
	if k != want || f != wantFault {
		t.Errorf("Of(%s) = %v, %s, want %v, %s", shownExpr(e), k, shownFault(f), want, shownFault(wantFault))
	}
	return k, f
}
