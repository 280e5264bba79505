package bind_test

import (
	"math/big"
	"slices"
	"strconv"
	"strings"
	"sync"
	"testing"

	"stepstone/api"
	"stepstone/bind"
	"stepstone/kind"
)

// The table of layer 15: what there is, of which kids, and the type of what it comes to.
const chapter = `
int index ints int
real index vector int
real index reals int
int neg int
real neg real
vector neg vector
int add int int
real add int real
real add real int
real add real real
vector add vector vector
int sub int int
real sub int real
real sub real int
real sub real real
vector sub vector vector
int mul int int
real mul int real
real mul real int
real mul real real
vector mul vector int
vector mul vector real
vector mul int vector
vector mul real vector
real div int int
real div int real
real div real int
real div real real
vector div vector int
vector div vector real
real exp int
real exp real
vector exp vector
real log int
real log real
vector log vector
real sqrt int
real sqrt real
vector sqrt vector
real inv_logit int
real inv_logit real
vector inv_logit vector
real square int
real square real
vector square vector
int sum ints
real sum vector
real sum reals
real dot vector vector
int size vector
int size ints
int size reals
`

// row is one of the table's.
type row struct {
	result uint8
	what   string
	kids   []uint8
}

var table = sync.OnceValue(func() []row {
	typeOf := func(word string) uint8 { return uint8(slices.Index(words[:], word)) }
	var out []row
	for line := range strings.Lines(strings.TrimSpace(chapter)) {
		l := strings.Fields(line)
		r := row{result: typeOf(l[0]), what: l[1]}
		for _, word := range l[2:] {
			r.kids = append(r.kids, typeOf(word))
		}
		out = append(out, r)
	}
	return out
})

// isOperation tells whether there is only a tree with so many kids.
func (r row) isOperation() bool {
	return slices.Contains(strings.Fields("index neg add sub mul div"), r.what)
}

// of puts an expression together of kids. That of an index is a name.
func (r row) of(kids ...api.Expr) api.Expr {
	switch r.what {
	case "index":
		return ex(api.ExIndex, kids[0].Name, kids[1:]...)
	case "neg":
		return ex(api.ExNeg, "", kids...)
	case "add":
		return ex(api.ExAdd, "", kids...)
	case "sub":
		return ex(api.ExSub, "", kids...)
	case "mul":
		return ex(api.ExMul, "", kids...)
	case "div":
		return ex(api.ExDiv, "", kids...)
	}
	return ex(api.ExCall, r.what, kids...)
}

// samples are values of a type, among them the edges.
func samples(ty uint8) []api.Value {
	texts := map[uint8]string{
		api.TyInt:   "a int 0; a int 1; a int -1; a int 2; a int 3; a int 4; a int -7; a int 1000; a int 46340; a int 46341; a int 65536; a int 2147483646; a int 2147483647; a int 2147483648; a int -2147483647; a int -2147483648",
		api.TyReal:  "a real 0; a real 1; a real -1; a real 1/2; a real -1/3; a real 7; a real 2147483648; a real -2147483649; a real 18446744073709551616/3; a real -5/18446744073709551615; a real 1e400; a real 1e-400",
		api.TyVec:   "a vector; a vector 0; a vector 1/2; a vector 1 2 3; a vector 0 -1/3 5; a vector 0 0 0; a vector 1e30 1e-30 -7 1/7; a vector 1 1 1 1",
		api.TyInts:  "a ints; a ints 0; a ints 2147483648; a ints -2147483648; a ints 2147483648 1; a ints 2147483648 1 -1; a ints -2147483648 -1; a ints -2147483648 2147483648; a ints 5 6 7 8; a ints 2147483648 2147483648 -2147483648",
		api.TyReals: "a reals; a reals 0; a reals 1/2; a reals -1 2/3 5 0; a reals 1e40 -1e40 1/3",
	}
	out := given(texts[ty])
	if ty == api.TyVec || ty == api.TyReals {
		out = append(out, long(ty, mostSize), long(ty, mostSize-1))
	}
	if ty == api.TyInts {
		out = append(out, long(ty, mostSize))
	}
	return out
}

// long is a row of so many elements.
func long(ty uint8, n int) api.Value {
	v := api.Value{Name: "a", Type: ty}
	for i := range n {
		if isWhole(ty) {
			v.Ints = append(v.Ints, int64(i%7-3))
		} else {
			v.Nums = append(v.Nums, normal(big.NewRat(int64(2*i-n), 1<<(i%5))))
		}
	}
	return v
}

// P16.1, P16.5: each row of the table, of all samples.
func TestTable(t *testing.T) {
	met := map[string]int{}
	for _, r := range table() {
		var values [][]api.Value
		for i, ty := range r.kids {
			l := samples(ty)
			for j := range l {
				l[j].Name = "x" + strconv.Itoa(i)
			}
			values = append(values, l)
		}
		names := []api.Expr{{Op: api.ExName, At: 11, Name: "x0"}, {Op: api.ExName, At: 12, Name: "x1"}}
		e := r.of(names[:len(r.kids)]...)
		e.At = 7
		for _, a := range values[0] {
			if len(values) == 1 {
				r.checkRow(t, e, met, a)
				continue
			}
			for _, b := range values[1] {
				r.checkRow(t, e, met, a, b)
			}
		}
	}
	for _, r := range table() {
		if slices.Contains(inexact(), r.what) {
			continue
		}
		for _, what := range []string{r.what + " is", r.what + " is none"} {
			if met[what] == 0 && what != "neg is none" && what != "size is none" && what != "square is none" {
				t.Errorf("%s is never met", what)
			}
		}
	}
}

// checkRow checks what a row's expression comes to.
func (r row) checkRow(t *testing.T, e api.Expr, met map[string]int, l ...api.Value) {
	t.Helper()
	v, f := checkExpr(t, e, l)
	k, _ := kind.Of(e, modelOf(l).kinds)
	switch {
	case slices.Contains(inexact(), r.what):
		if f != (api.Fault{E: api.ErrType, At: 7}) {
			t.Errorf("%s of %s: %s", r.what, cut(toldAll(l)), shownFault(f))
		}
	case f.E == api.OK:
		met[r.what+" is"]++
		if v.Type != r.result || k.Type != r.result || v.Name != "" || !isValid(v) {
			t.Errorf("%s of %s is %s", r.what, cut(toldAll(l)), cut(told(v)))
		}
	default:
		met[r.what+" is none"]++
		if f != (api.Fault{E: api.ErrRange, At: 7}) {
			t.Errorf("%s of %s: %s", r.what, cut(toldAll(l)), shownFault(f))
		}
	}
}

// P16.1: what the table has no type for is layer 15's fault, ahead of any value.
func TestNoRow(t *testing.T) {
	for _, r := range table() {
		for _, a := range types() {
			for _, b := range append(types(), 0) {
				kids := []uint8{a}
				l := []api.Value{samples(a)[0]}
				l[0].Name = "x0"
				if b > 0 {
					kids = append(kids, b)
					l = append(l, samples(b)[0])
					l[1].Name = "x1"
				}
				if len(kids) != len(r.kids) && r.isOperation() {
					continue // which is no tree
				}
				names := []api.Expr{{Op: api.ExName, At: 11, Name: "x0"}, {Op: api.ExName, At: 12, Name: "x1"}}
				e := r.of(names[:len(kids)]...)
				e.At = 7
				if _, f := checkExpr(t, e, l); f.E == api.ErrName || f.E == api.OK && !slices.ContainsFunc(table(), func(x row) bool { return x.what == r.what && slices.Equal(x.kids, kids) }) {
					t.Errorf("%s of %v: %s", r.what, kids, shownFault(f))
				}
			}
		}
	}
	v, f := bind.Come(ex(api.ExAdd, "", name("v"), num("1")), some())
	if !isNone(v) || f != (api.Fault{E: api.ErrType}) {
		t.Errorf("a row and a number: %s, %s", told(v), shownFault(f))
	}
}
