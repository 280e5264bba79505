package kind

import "stepstone/api"

// scope has the variables that exist, in order, and where among them the last one of each name is.
type scope struct {
	vars []api.Var
	last map[string]int
}

func newScope(vars []api.Var) scope {
	s := scope{vars: vars, last: map[string]int{}}
	for i, v := range vars {
		s.last[v.Name] = i
	}
	return s
}

func (s *scope) add(v api.Var) {
	s.last[v.Name] = len(s.vars)
	s.vars = append(s.vars, v)
}

// leave forgets all variables but the first n. Their names must not be those of these.
func (s *scope) leave(n int) {
	for _, v := range s.vars[n:] {
		delete(s.last, v.Name)
	}
	s.vars = s.vars[:n]
}

func (s *scope) find(name string) (api.Var, bool) {
	i, is := s.last[name]
	if !is {
		return api.Var{}, false
	}
	return s.vars[i], true
}

// variable is for where one is named.
func (s *scope) variable(name string, at int) api.Var {
	v, is := s.find(name)
	need(is, api.ErrName, at)
	return v
}

// needNew is for where one is made.
func (s *scope) needNew(name string, at int) {
	_, is := s.find(name)
	need(!is, api.ErrDouble, at)
}
