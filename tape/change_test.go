package tape_test

import (
	"math"
	"reflect"

	"stepstone/api"
)

// names are those that a step may be told by.
func names() []string { return []string{"", "x", "y[1]", "x\x00", "\xff"} }

// more are what may be put into a list, by what it is a list of.
func more() map[reflect.Type][]any {
	return map[reflect.Type][]any{
		reflect.TypeFor[api.Node](): {num(0, 1), num(2, 4), par(0), par(1), one(api.NdLog, 0), two(api.NdDiv, 0, 1), api.Node{}},
		reflect.TypeFor[api.Tell](): {tell("", 0), tell("x", 0), tell("x", 1), tell("x", -1)},
		reflect.TypeFor[uint64]():   {uint64(0), uint64(1), ^uint64(0)},
	}
}

// changer makes each single change in a thing, tells of it, and takes it back.
type changer struct {
	names []string
	more  map[reflect.Type][]any
	see   func()
}

// eachChange changes each number, text and truth in what p points to, and each list: less one, one twice, two swapped, cut off, or with others in it, or in one's place. A change may leave all as it was: those are not told of.
func eachChange(p any, see func()) {
	c := changer{names(), more(), see}
	c.value(reflect.ValueOf(p).Elem())
}

// put tells of a change to x.
func (c changer) put(v, x reflect.Value) {
	was := reflect.ValueOf(v.Interface())
	if reflect.DeepEqual(v.Interface(), x.Interface()) || x.Kind() == reflect.Slice && x.Len() == 0 && v.Len() == 0 {
		return
	}
	v.Set(x)
	c.see()
	v.Set(was)
}

func (c changer) value(v reflect.Value) {
	switch v.Kind() {
	case reflect.Struct:
		for i := range v.NumField() {
			c.value(v.Field(i))
		}
	case reflect.Slice:
		c.list(v)
		for _, i := range spots(v.Len()) {
			c.value(v.Index(i))
		}
	case reflect.Bool:
		c.put(v, reflect.ValueOf(!v.Bool()))
	case reflect.String:
		for _, s := range c.names {
			c.put(v, reflect.ValueOf(s))
		}
	case reflect.Int:
		c.numbers(v, v.Int()+1, v.Int()-1, -v.Int(), 0, 1<<32, math.MinInt64, math.MaxInt64)
	case reflect.Uint8:
		for x := range int64(17) {
			c.numbers(v, x)
		}
	case reflect.Uint64:
		c.numbers(v, int64(v.Uint()+1), int64(v.Uint()-1), 0, 1, -1)
	}
}

func (c changer) numbers(v reflect.Value, l ...int64) {
	for _, x := range l {
		c.put(v, reflect.ValueOf(x).Convert(v.Type()))
	}
}

// spots are places in a list: all, unless it is long.
func spots(n int) []int {
	if n > 20 {
		return []int{0, 1, n / 2, n - 2, n - 1}
	}
	var out []int
	for i := range n {
		out = append(out, i)
	}
	return out
}

func (c changer) list(v reflect.Value) {
	n := v.Len()
	of := func(l ...reflect.Value) reflect.Value {
		out := reflect.MakeSlice(v.Type(), 0, n+1)
		for _, x := range l {
			out = reflect.AppendSlice(out, x)
		}
		return out
	}
	c.put(v, reflect.Zero(v.Type()))
	for _, i := range spots(n) {
		c.put(v, of(v.Slice(0, i), v.Slice(i+1, n)))
		c.put(v, of(v.Slice(0, i+1), v.Slice(i, n)))
		c.put(v, of(v.Slice(0, i)))
		for _, j := range spots(i) {
			c.put(v, of(v.Slice(0, j), v.Slice(i, i+1), v.Slice(j+1, i), v.Slice(j, j+1), v.Slice(i+1, n)))
		}
	}
	for _, x := range c.more[v.Type().Elem()] {
		one := reflect.MakeSlice(v.Type(), 1, 1)
		one.Index(0).Set(reflect.ValueOf(x))
		for _, i := range spots(n + 1) {
			c.put(v, of(v.Slice(0, i), one, v.Slice(i, n)))
			if i < n {
				c.put(v, of(v.Slice(0, i), one, v.Slice(i+1, n)))
			}
		}
	}
}
