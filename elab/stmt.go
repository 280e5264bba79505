package elab

import (
	"stepstone/api"
	"stepstone/dist"
	"stepstone/kind"
)

// action is a statement that may be executed often. Its plans are made when it begins for the first time: the variables that exist then are those of each time.
type action struct {
	*api.Stmt
	isPlanned   bool
	kids        []plan
	variable    *variable // that is set, or is a loop's
	body, other []action
}

func actions(l []api.Stmt) []action {
	out := make([]action, len(l))
	for i := range l {
		out[i].Stmt = &l[i]
	}
	return out
}

// rounds are statements to be executed: of a loop as long as the variable is not the last integer, others once.
type rounds struct {
	list     []action
	done     int
	variable *variable
	last     int64
}

// statements are executed by a list, not by calls within calls: they may be deeper than a stack can be.
func (u *unroller) statements(l []api.Stmt) {
	for todo := []rounds{{list: actions(l)}}; len(todo) > 0; {
		top := &todo[len(todo)-1]
		switch {
		case top.done < len(top.list):
			top.done++
			todo = append(todo, u.execute(&top.list[top.done-1]))
		case !u.again(top):
			todo = todo[:len(todo)-1]
		}
	}
}

// again begins the next round, or leaves the loop.
func (u *unroller) again(r *rounds) bool {
	if r.variable == nil {
		return false
	}
	n := r.variable.only()
	if n == r.last {
		u.leave()
		return false
	}
	r.variable.value, r.done = scalar(n+1), 0
	return true
}

// execute returns what is to be executed next.
func (u *unroller) execute(a *action) rounds {
	at := place(a.At)
	u.begin(at)
	if !a.isPlanned {
		u.prepare(a)
	}
	switch a.Op {
	case api.StSet:
		u.assign(a)
	case api.StAdd:
		u.grow(at, u.steps(a.kids[0]).only())
	case api.StDist:
		u.distribute(a)
	case api.StFor:
		return u.loop(a)
	case api.StIf:
		return u.choice(a)
	case api.StBlock:
		return rounds{list: a.body}
	}
	return rounds{}
}

func (u *unroller) prepare(a *action) {
	a.isPlanned = true
	kids := a.Kids
	switch a.Op {
	case api.StSet:
		a.variable = u.find(a.Name)
	case api.StFor:
		a.variable = &variable{name: a.Name, isWhole: true}
	case api.StIf:
		kids = a.Kids[0].Kids
	}
	for i := range kids {
		a.kids = append(a.kids, u.plan(&kids[i]))
	}
	a.body, a.other = actions(a.Body), actions(a.Else)
}

func (u *unroller) assign(a *action) {
	at, v := place(a.At), a.variable
	if len(a.kids) == 1 {
		v.set(at, u.fitting(v, a.kids[0]))
		return
	}
	i := v.index(at, u.value(a.kids[0]).only())
	v.setElement(i, u.fitting(v, a.kids[1]).only())
}

func (u *unroller) distribute(a *action) {
	at := place(a.At)
	_, isDiscrete, _ := kind.Discrete(a.Name)
	evaluate := u.steps
	if isDiscrete {
		evaluate = u.value
	}
	x := evaluate(a.kids[0])
	var args []value
	for _, l := range a.kids[1:] {
		args = append(args, u.steps(l))
	}
	for _, arg := range args {
		at.need(!arg.isRow || len(arg.list) == len(x.list), api.ErrRange)
	}
	for i, one := range x.list {
		var with []int
		for _, arg := range args {
			with = append(with, int(arg.element(i)))
		}
		u.grow(at, u.term(at, a.Name, isDiscrete, one, with))
	}
}

func (u *unroller) term(at place, name string, isDiscrete bool, x int64, args []int) int64 {
	if isDiscrete {
		return at.step(dist.Count(u.Maker, name, x, args))
	}
	return at.step(dist.Term(u.Maker, name, int(x), args))
}

// loop has no rounds where nothing is executed in them, however many these are.
func (u *unroller) loop(a *action) rounds {
	from, to := u.value(a.kids[0]).only(), u.value(a.kids[1]).only()
	if from > to || len(a.body) == 0 {
		return rounds{}
	}
	a.variable.value = scalar(from)
	u.add(a.variable)
	return rounds{list: a.body, variable: a.variable, last: to}
}

func (u *unroller) choice(a *action) rounds {
	if isTrue(a.Kids[0].Op, u.value(a.kids[0]).only(), u.value(a.kids[1]).only()) {
		return rounds{list: a.body}
	}
	return rounds{list: a.other}
}

func isTrue(op uint8, a, b int64) bool {
	switch op {
	case api.ExEq:
		return a == b
	case api.ExNe:
		return a != b
	case api.ExLt:
		return a < b
	case api.ExLe:
		return a <= b
	case api.ExGt:
		return a > b
	}
	return a >= b
}
