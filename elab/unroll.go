package elab

import (
	"strconv"

	"stepstone/api"
	"stepstone/chart"
	"stepstone/tape"
)

// none is in the place of a bound that there is not (layer 20).
const none = -1

// unroller goes through a program. The first fault ends that by a panic.
type unroller struct {
	*state
	ofIntegers, ofSteps map[key]compute
	tells               []api.Tell
}

func newUnroller(m *tape.Maker, data []api.Value) *unroller {
	s := newState(m)
	for _, x := range data {
		s.add(withValue(x))
	}
	return &unroller{state: s, ofIntegers: wholeOperations(), ofSteps: s.stepOperations()}
}

func (u *unroller) program(p api.Prog) api.Tape {
	for i, b := range p.Blocks {
		first := len(u.vars)
		u.declarations(i, b.Decls)
		u.statements(b.Stmts)
		if i >= api.BkPars {
			u.tell(b.Decls, u.vars[first:])
		}
	}
	// Neither index can be wrong: both are of steps that were made.
	t, _ := u.Tape(int(u.target), u.tells)
	return t
}

// declarations of data have nothing to be evaluated: layer 16 did that.
func (u *unroller) declarations(block int, l []api.Decl) {
	if block == api.BkData {
		return
	}
	for _, d := range l {
		v := newVariable(d.Name, d.Type, u.blank[:u.size(d)])
		if block == api.BkPars {
			u.parameters(d, v)
		}
		for i := range d.Init {
			v.set(place(d.At), u.fitting(v, u.plan(&d.Init[i])))
		}
		u.add(v)
	}
}

// size is how many elements a declaration is of.
func (u *unroller) size(d api.Decl) int {
	for i := range d.Size {
		n := u.value(u.plan(&d.Size[i])).only()
		place(d.Size[i].At).need(0 <= n && n <= api.MaxSize, api.ErrRange)
		return int(n)
	}
	return 1
}

// fitting is a value by which a variable can be set.
func (u *unroller) fitting(v *variable, l plan) value {
	if v.isWhole {
		return u.value(l)
	}
	return u.steps(l)
}

func (u *unroller) parameters(d api.Decl, v *variable) {
	at := place(d.At)
	lower, upper := u.bound(d.Lower), u.bound(d.Upper)
	for i := range v.list {
		free := at.step(u.Par())
		x, logarithm, e := chart.Put(u.Maker, int(free), lower, upper)
		v.setElement(i, at.step(x, e))
		u.grow(at, int64(logarithm))
	}
}

func (u *unroller) bound(l []api.Expr) int {
	for i := range l {
		return int(u.steps(u.plan(&l[i])).only())
	}
	return none
}

// tell is for variables that have to be set by the end of their block.
func (u *unroller) tell(l []api.Decl, vars []*variable) {
	for i, v := range vars {
		place(l[i].At).need(v.isSet(), api.ErrUnset)
		for j, step := range v.list {
			u.tells = append(u.tells, api.Tell{Name: v.elementName(j), At: int(step)})
		}
	}
}

func (v *variable) elementName(i int) string {
	if !v.isRow {
		return v.name
	}
	return v.name + "[" + strconv.Itoa(i+1) + "]"
}
