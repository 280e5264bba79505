package elab

import (
	"strconv"

	"stepstone/api"
	"stepstone/frac"
	"stepstone/walk"
)

// wholeDigits is how many digits a numeral has at most that is an integer (layer 15).
const wholeDigits = 9

// compute is what an expression at a place is evaluated to, by what its kids are.
type compute func(at place, kids []value) value

// part is an expression in a plan.
type part struct {
	at      place
	kids    int
	isWhole bool // is it evaluated to integers?
	compute compute
	isStep  bool  // is a step to be made of its integer?
	above   place // that of the expression that needs the step
}

// plan is an expression's parts in the order in which they are evaluated, each one behind its kids. It holds what is the same each time that they are evaluated in a loop.
type plan []part

// plan needs an expression that is valid with the variables that exist.
func (u *unroller) plan(e *api.Expr) plan {
	var l plan
	walk.Up(e, func(e *api.Expr, kids []int) int {
		p := u.part(e, l.areWhole(kids))
		switch {
		case e.Op == api.ExIndex: // its kid stays an integer, whatever it has elements of
		case !p.isWhole:
			l.makeSteps(kids, p.at)
		case isSizeOfName(e):
			l[kids[0]].compute = u.asItIs(&e.Kids[0])
		}
		l = append(l, p)
		return len(l) - 1
	})
	return l
}

func (l plan) areWhole(kids []int) bool {
	for _, k := range kids {
		if !l[k].isWhole {
			return false
		}
	}
	return true
}

// makeSteps is for the kids of what is evaluated to steps.
func (l plan) makeSteps(kids []int, above place) {
	for _, k := range kids {
		l[k].isStep, l[k].above = l[k].isWhole, above
	}
}

func isSizeOfName(e *api.Expr) bool {
	return e.Op == api.ExCall && e.Name == size && e.Kids[0].Op == api.ExName
}

func (u *unroller) part(e *api.Expr, areWhole bool) part {
	p := part{at: place(e.At), kids: len(e.Kids)}
	switch e.Op {
	case api.ExNum:
		p.isWhole, p.compute = u.numeral(e)
	case api.ExName:
		p.isWhole, p.compute = u.name(e)
	case api.ExIndex:
		p.isWhole, p.compute = u.indexed(e)
	default:
		p.isWhole, p.compute = u.operation(key{e.Op, e.Name}, areWhole)
	}
	return p
}

// numeral fails only when it is evaluated, if layer 6 refuses the number.
func (u *unroller) numeral(e *api.Expr) (bool, compute) {
	if n, err := strconv.ParseInt(e.Name, 10, 64); err == nil && len(e.Name) <= wholeDigits {
		v := scalar(n)
		return true, func(_ place, _ []value) value { return v }
	}
	x, errno := frac.Numeral(e.Name)
	v := withValue(api.Value{Type: api.TyReal, Nums: []api.Frac{x}})
	return false, func(at place, _ []value) value {
		at.need(errno == api.OK, api.ErrRange)
		return u.all(at, v)
	}
}

func (u *unroller) name(e *api.Expr) (bool, compute) {
	v := u.find(e.Name)
	return v.isWhole, func(at place, _ []value) value { return u.all(at, v) }
}

// asItIs has all elements of a name, set or not.
func (u *unroller) asItIs(e *api.Expr) compute {
	v := u.find(e.Name)
	return func(_ place, _ []value) value { return v.value }
}

func (u *unroller) indexed(e *api.Expr) (bool, compute) {
	v := u.find(e.Name)
	return v.isWhole, func(at place, kids []value) value {
		i := v.index(at, kids[0].only())
		v.setElement(i, u.element(at, v, i))
		return scalar(v.list[i])
	}
}

// operation computes with integers, if all kids are, or if there is no other way: a size is an integer, whatever it is of.
func (u *unroller) operation(k key, areWhole bool) (bool, compute) {
	ofIntegers, isWhole := u.ofIntegers[k]
	ofSteps, is := u.ofSteps[k]
	if is && !(isWhole && areWhole) {
		return false, ofSteps
	}
	return true, ofIntegers
}

// value is what an expression is evaluated to: integers, or else steps.
func (u *unroller) value(l plan) value {
	var open []value
	for i := range l {
		p := &l[i]
		first := len(open) - p.kids
		v := p.compute(p.at, open[first:])
		if p.isStep {
			v = scalar(u.integer(p.above, v.only()))
		}
		open = append(open[:first], v)
	}
	return open[0]
}

// steps is for what needs steps also of an integer.
func (u *unroller) steps(l plan) value {
	v := u.value(l)
	if root := l[len(l)-1]; root.isWhole {
		v = scalar(u.integer(root.at, v.only()))
	}
	return v
}
