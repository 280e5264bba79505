package bind_test

import (
	"reflect"
	"slices"

	"stepstone/api"
)

// copyOf is a value in lists of its own.
func copyOf(v api.Value) api.Value {
	v.Ints = slices.Clone(v.Ints)
	v.Nums = slices.Clone(v.Nums)
	for i, x := range v.Nums {
		v.Nums[i] = api.Frac{N: api.Int{Neg: x.N.Neg, M: slices.Clone(x.N.M)}, D: slices.Clone(x.D)}
	}
	return v
}

// isSame is equality in everything, but that nil lists are empty, in another way.
func isSame(a, b api.Value) bool { return reflect.DeepEqual(filled(a), filled(b)) }

// filled has no list that is nil.
func filled(v api.Value) api.Value {
	v.Ints = append([]int64{}, v.Ints...)
	v.Nums = append([]api.Frac{}, v.Nums...)
	for i, x := range v.Nums {
		v.Nums[i] = api.Frac{N: api.Int{Neg: x.N.Neg, M: append(api.Nat{}, x.N.M...)}, D: append(api.Nat{}, x.D...)}
	}
	return v
}

// names are those that a part may be given.
func names() []string {
	return []string{"", "n", "v", "y", "k", "x", "none", "1", "0", "1.5", "2147483648", "exp", "sum", "size", "dot", "square", "target"}
}

// more are what may be put into a list, by what it is a list of.
func more() map[reflect.Type][]any {
	at := func(e api.Expr) api.Expr {
		e.At = -77
		return e
	}
	return map[reflect.Type][]any{
		reflect.TypeFor[api.Expr]():  {at(name("n")), at(num("1")), at(num("0")), at(ex(api.ExCall, "exp", num("1"))), at(ex(api.ExDiv, "", num("1"), num("0"))), api.Expr{}},
		reflect.TypeFor[api.Decl]():  {api.Decl{Type: api.TyInt, At: -78, Name: "none"}, api.Decl{Type: api.TyVec, At: -79, Name: "x", Size: []api.Expr{num("2")}}, api.Decl{}},
		reflect.TypeFor[api.Stmt]():  {api.Stmt{Op: api.StAdd, Kids: []api.Expr{num("1")}}},
		reflect.TypeFor[api.Datum](): {one("n", ratio(1, 1)), list("x", ratio(1, 1), ratio(1, 2)), api.Datum{}},
		reflect.TypeFor[api.Value](): {value("n", "int", "2"), value("v", "vector", "1", "2"), api.Value{}},
		reflect.TypeFor[api.Frac]():  {ratio(1, 2), ratio(-3, 1), ratio(0, 1), ratio(1<<31+1, 1), ratio(2, 4), api.Frac{}},
		reflect.TypeFor[int64]():     {int64(0), int64(-1), int64(1) << 31, int64(1)<<31 + 1},
		reflect.TypeFor[uint64]():    {uint64(0), uint64(1), ^uint64(0)},
	}
}

// changer makes each single change in a thing, tells of it, and takes it back.
type changer struct {
	names []string
	more  map[reflect.Type][]any
	see   func()
}

// eachChange changes each number, text and truth in what p points to, and each list: less one, one twice, two swapped, cut off, or with others in it, or in one's place. A change may leave all as it was: those are not told of.
func eachChange(p any, see func()) {
	c := changer{names(), more(), see}
	c.value(reflect.ValueOf(p).Elem())
}

// put tells of a change to x.
func (c changer) put(v, x reflect.Value) {
	was := reflect.ValueOf(v.Interface())
	if reflect.DeepEqual(v.Interface(), x.Interface()) || x.Kind() == reflect.Slice && x.Len() == 0 && v.Len() == 0 {
		return
	}
	v.Set(x)
	c.see()
	v.Set(was)
}

func (c changer) value(v reflect.Value) {
	switch v.Kind() {
	case reflect.Struct:
		for i := range v.NumField() {
			c.value(v.Field(i))
		}
	case reflect.Array:
		for i := range v.Len() {
			c.value(v.Index(i))
		}
	case reflect.Slice:
		c.list(v)
		for _, i := range spots(v.Len()) {
			c.value(v.Index(i))
		}
	case reflect.Bool:
		c.put(v, reflect.ValueOf(!v.Bool()))
	case reflect.String:
		for _, s := range c.names {
			c.put(v, reflect.ValueOf(s))
		}
	case reflect.Int, reflect.Int64:
		c.numbers(v, v.Int()+1, v.Int()-1, -v.Int(), 0, 1<<31, -1<<31-1)
	case reflect.Uint8:
		for x := range int64(17) {
			c.numbers(v, x)
		}
	case reflect.Uint64:
		c.numbers(v, int64(v.Uint()+1), int64(v.Uint()-1), 0, 1, -1)
	}
}

func (c changer) numbers(v reflect.Value, l ...int64) {
	for _, x := range l {
		c.put(v, reflect.ValueOf(x).Convert(v.Type()))
	}
}

// spots are places in a list: all, unless it is long.
func spots(n int) []int {
	if n > 20 {
		return []int{0, 1, n / 2, n - 2, n - 1}
	}
	var out []int
	for i := range n {
		out = append(out, i)
	}
	return out
}

func (c changer) list(v reflect.Value) {
	n := v.Len()
	of := func(l ...reflect.Value) reflect.Value {
		out := reflect.MakeSlice(v.Type(), 0, n+1)
		for _, x := range l {
			out = reflect.AppendSlice(out, x)
		}
		return out
	}
	c.put(v, reflect.Zero(v.Type()))
	for _, i := range spots(n) {
		c.put(v, of(v.Slice(0, i), v.Slice(i+1, n)))
		c.put(v, of(v.Slice(0, i+1), v.Slice(i, n)))
		c.put(v, of(v.Slice(0, i)))
		for _, j := range spots(i) {
			c.put(v, of(v.Slice(0, j), v.Slice(i, i+1), v.Slice(j+1, i), v.Slice(j, j+1), v.Slice(i+1, n)))
		}
	}
	for _, x := range c.more[v.Type().Elem()] {
		one := reflect.MakeSlice(v.Type(), 1, 1)
		one.Index(0).Set(reflect.ValueOf(x))
		for _, i := range spots(n + 1) {
			c.put(v, of(v.Slice(0, i), one, v.Slice(i, n)))
			if i < n {
				c.put(v, of(v.Slice(0, i), one, v.Slice(i+1, n)))
			}
		}
	}
}
