package bind_test

import (
	"math/rand/v2"
	"reflect"
	"runtime/debug"
	"slices"
	"strconv"
	"strings"
	"sync"
	"testing"
	"unsafe"

	"stepstone/api"
	"stepstone/bind"
)

// span is memory that something has: a list with its spare capacity, or a text.
type span struct {
	from, to uintptr
	what     string
}

type spans []span

// of finds all memory that a thing has, at all depths, also behind its lists.
func (l *spans) of(what string, x any) {
	l.value(what, reflect.ValueOf(x))
}

func (l *spans) value(what string, v reflect.Value) {
	switch v.Kind() {
	case reflect.String:
		if s := v.String(); s != "" {
			from := uintptr(unsafe.Pointer(unsafe.StringData(s)))
			*l = append(*l, span{from, from + uintptr(len(s)), what + " " + s})
		}
	case reflect.Struct:
		for i := range v.NumField() {
			l.value(what+"."+v.Type().Field(i).Name, v.Field(i))
		}
	case reflect.Array:
		for i := range v.Len() {
			l.value(what, v.Index(i))
		}
	case reflect.Slice:
		if v.Cap() > 0 {
			from := v.Pointer()
			*l = append(*l, span{from, from + uintptr(v.Cap())*v.Type().Elem().Size(), what})
		}
		for i := range v.Len() {
			l.value(what+"["+strconv.Itoa(i)+"]", v.Index(i))
		}
	}
}

func (l spans) apart(t *testing.T) {
	t.Helper()
	slices.SortFunc(l, func(a, b span) int { return int(int64(a.from) - int64(b.from)) })
	for i := 1; i < len(l); i++ {
		if l[i].from < l[i-1].to {
			t.Errorf("%s and %s share memory", cut(l[i-1].what), cut(l[i].what))
		}
	}
}

// roomy is a thing whose lists have room for two more, at all depths, which is filled with what it has otherwise, or with something else. Its texts have memory of their own.
func roomy[T any](x T) T {
	return roomyOf(reflect.ValueOf(&x).Elem()).Interface().(T)
}

func roomyOf(v reflect.Value) reflect.Value {
	out := reflect.New(v.Type()).Elem()
	switch v.Kind() {
	case reflect.Struct:
		for i := range v.NumField() {
			out.Field(i).Set(roomyOf(v.Field(i)))
		}
	case reflect.Array:
		for i := range v.Len() {
			out.Index(i).Set(roomyOf(v.Index(i)))
		}
	case reflect.String:
		out.SetString(strings.Clone(v.String()))
	case reflect.Slice:
		l := reflect.MakeSlice(v.Type(), v.Len()+2, v.Len()+2)
		for i := range v.Len() {
			l.Index(i).Set(roomyOf(v.Index(i)))
		}
		for i := range 2 {
			spare(l.Index(v.Len() + i))
		}
		out.Set(l.Slice(0, v.Len()))
	default:
		out.Set(v)
	}
	return out
}

// spare fills what is behind a list.
func spare(v reflect.Value) {
	switch v.Kind() {
	case reflect.Int64:
		v.SetInt(91)
	case reflect.Uint64:
		v.SetUint(92)
	case reflect.Struct:
		for i := range v.NumField() {
			if f := v.Field(i); f.Kind() == reflect.String {
				f.SetString("spare")
			} else if f.Kind() == reflect.Int {
				f.SetInt(93)
			}
		}
	}
}

func roomyValues(l []api.Value) []api.Value { return roomy(l) }

// whole is a thing with what is behind its lists, at all depths, as one that can be held against another.
func whole[T any](x T) any { return wholeOf(reflect.ValueOf(x)) }

func wholeOf(v reflect.Value) any {
	var out []any
	switch v.Kind() {
	case reflect.Struct:
		for i := range v.NumField() {
			out = append(out, wholeOf(v.Field(i)))
		}
	case reflect.Array:
		for i := range v.Len() {
			out = append(out, wholeOf(v.Index(i)))
		}
	case reflect.Slice:
		out = append(out, v.Len())
		v = v.Slice(0, v.Cap())
		for i := range v.Len() {
			out = append(out, wholeOf(v.Index(i)))
		}
	default:
		return v.Interface()
	}
	return out
}

// expressions are some of which the value is a variable's, an element's, a row's, or a number's.
func expressions() []string {
	return []string{"n", "r", "v", "k", "y", "none", "v[2]", "k[1]", "y[2]", "-v", "v + w", "v * 2", "2 * v", "v * 1", "v + v - v", "r + 0", "r * 1", "sum(u)", "sum(v)", "sum(k)", "dot(u, u)", "square(r)", "square(v)", "v / 1", "size(v)", "1.5", "12", "n / 2", "0 * v", "none + none"}
}

// R5: what Come returns is new memory, of which no two lists share any, and none is the arguments'.
func TestComeIsNewMemory(t *testing.T) {
	for _, s := range expressions() {
		e, values := roomy(parsedExpr(t, s)), roomy(some())
		first, f := bind.Come(e, values)
		second, _ := bind.Come(e, values)
		if f != (api.Fault{}) || !bind.Same(first, second) {
			t.Errorf("%s: %s, %s, then %s", s, shownFault(f), told(first), told(second))
		}
		var l spans
		l.of("expression", e)
		l.of("values", values)
		l.of("first", first)
		l.of("second", second)
		l.apart(t)
		spoiled(first)
		if third, _ := bind.Come(e, values); !bind.Same(second, third) {
			t.Errorf("%s: what is done to a result is seen in another one", s)
		}
	}
}

// spoiled writes to all that a value has, and behind it.
func spoiled(v api.Value) {
	for i := range v.Ints[:cap(v.Ints)] {
		v.Ints[:cap(v.Ints)][i] = 77
	}
	for _, x := range v.Nums {
		for _, m := range []api.Nat{x.N.M, x.D} {
			for i := range m[:cap(m)] {
				m[:cap(m)][i] = 77
			}
		}
	}
	for i := range v.Nums[:cap(v.Nums)] {
		v.Nums[:cap(v.Nums)][i] = api.Frac{N: api.Int{Neg: true}}
	}
}

func ordinaryProgram() string {
	return `data {
	int<lower=1, upper=100> n; real<lower=n - 0.5> r; vector<upper=square(r) * 3>[n] v; array[n + 1] int<lower=-n> k;
	array[size(k)] real<lower=-n, upper=r * 2> y; real<upper=sum(v) / n> m; vector[sum(k)] w; int<lower=k[1], upper=k[n] * 7> j; array[0] int none; vector[n - n] nothing;
} parameters { vector[j] x; } model { target += sum(w); }`
}

func ordinaryData() string {
	return "n = 2; r = 2.5; v = [1, -7e-1]; k = [1, 2, -1]; y = [0, 1.5, -2]; m = -3; w = [0.5, 0.25]; j = 5; none = []; nothing = []; other = 7;"
}

// R5: the same of what Bind returns.
func TestBindIsNewMemory(t *testing.T) {
	p, data := roomy(parsed(t, ordinaryProgram())), roomy(items(t, ordinaryData()))
	first, f := bind.Bind(p, data)
	second, _ := bind.Bind(p, data)
	if f != (api.Fault{}) || len(first) != 10 || toldAll(first) != toldAll(second) {
		t.Fatalf("%s, %s, then %s", shownFault(f), toldAll(first), toldAll(second))
	}
	var l spans
	l.of("program", p)
	l.of("data", data)
	l.of("first", first)
	l.of("second", second)
	l.apart(t)
	want := toldAll(second)
	for _, v := range first {
		spoiled(v)
	}
	for i := range first[:cap(first)] {
		first[:cap(first)][i] = api.Value{Name: "spoiled"}
	}
	third, _ := bind.Bind(p, data)
	if toldAll(second) != want || toldAll(third) != want {
		t.Error("what is done to a result is seen in another one")
	}
}

// R5: and of what Find returns, also of values that are not valid.
func TestFindIsNewMemory(t *testing.T) {
	wrong := slices.DeleteFunc(wrongValues("wrong"), func(v api.Value) bool { return v.Type > 6 || len(v.Ints)+len(v.Nums) > 3 })
	for i := range wrong {
		wrong[i].Name += strconv.Itoa(i)
	}
	values := roomy(slices.Concat(some(), wrong))
	for _, v := range values {
		name := strings.Clone(v.Name)
		first, is := bind.Find(values, name)
		second, _ := bind.Find(values, name)
		if !is || !bind.Same(first, second) {
			t.Errorf("%s is found as %s, then %s", name, told(first), told(second))
		}
		var l spans
		l.of("name", name)
		l.of("values", values)
		l.of("first", first)
		l.of("second", second)
		l.apart(t)
	}
}

// R5: what is handed in stays as it was, and what is behind its lists; R4: the second time the result is the same.
func TestUnchanged(t *testing.T) {
	g := rand.New(rand.NewPCG(16, 20))
	for i := range 600 {
		m := newMaker(g)
		values := roomy(m.values)
		e := roomy(placed(m.any()))
		if i%5 == 0 {
			values = append(values[:len(values):len(values)], roomy(wrongValues("x")[i%400]))
		}
		before, beforeExpr := whole(values), whole(e)
		v, f := bind.Come(e, values)
		found, is := bind.Find(values, "v")
		isSame := bind.Same(values[0], values[len(values)-1])
		if !reflect.DeepEqual(before, whole(values)) || !reflect.DeepEqual(beforeExpr, whole(e)) {
			t.Fatalf("%s of %s: one was changed", shownExpr(e), toldAll(values))
		}
		again, fault := bind.Come(e, values)
		foundAgain, isAgain := bind.Find(values, "v")
		if told(v) != told(again) || f != fault || told(found) != told(foundAgain) || is != isAgain || isSame != bind.Same(values[0], values[len(values)-1]) {
			t.Errorf("%s is %s, %s, and %s, %s the second time", shownExpr(e), told(v), shownFault(f), told(again), shownFault(fault))
		}
	}
	for i := range 300 {
		p, data := newMaker(g).prog()
		if i%4 == 0 && len(data) > 0 {
			data[g.IntN(len(data))].Nums = []api.Frac{ratio(2, 4), oneOf(g, wrongNums()...)}
		}
		p, data = roomy(p), roomy(data)
		before, beforeData := whole(p), whole(data)
		l, f := bind.Bind(p, data)
		if !reflect.DeepEqual(before, whole(p)) || !reflect.DeepEqual(beforeData, whole(data)) {
			t.Fatalf("%s with %s: one was changed", shownTree(p), shownData(data))
		}
		if again, fault := bind.Bind(p, data); toldAll(again) != toldAll(l) || fault != f {
			t.Errorf("%s is %s, and %s the second time", shownTree(p), shownFault(f), shownFault(fault))
		}
	}
}

// R4: an earlier call does not matter, also if it had a fault; nor do calls side by side.
func TestSideBySide(t *testing.T) {
	p, data, values := parsed(t, ordinaryProgram()), items(t, ordinaryData()), some()
	e, wrong := parsedExpr(t, "dot(v, w) + sum(y)"), parsedExpr(t, "1 / (n - 3)")
	l, _ := bind.Bind(p, data)
	want := toldAll(l)
	var wait sync.WaitGroup
	for range 8 {
		wait.Go(func() {
			for range 30 {
				if l, f := bind.Bind(p, data[1:]); l != nil || f.E != api.ErrData {
					t.Error(shownFault(f))
				}
				if l, f := bind.Bind(p, data); f != (api.Fault{}) || toldAll(l) != want {
					t.Error(shownFault(f))
				}
				if v, f := bind.Come(wrong, values); !isNone(v) || f != (api.Fault{E: api.ErrRange}) {
					t.Error(shownFault(f))
				}
				if v, f := bind.Come(e, values); f != (api.Fault{}) || told(v) != "real -61/6" {
					t.Error(told(v), shownFault(f))
				}
				if v, is := bind.Find(values, "v"); !is || told(v) != "v vector 1 1/2 -3" || !bind.Same(v, values[2]) {
					t.Error(told(v))
				}
			}
		})
	}
	wait.Wait()
}

// deep is how many parts an expression has that is deeper than calls within calls could go in so small a stack.
const (
	deep  = 1 << 19
	stack = 1 << 24
)

// R1: expressions that are very deep, on either side, and with a fault at the bottom.
func TestDeep(t *testing.T) {
	defer debug.SetMaxStack(debug.SetMaxStack(stack))
	values := given("k ints 1; n int 5")
	for _, around := range []func(e api.Expr) api.Expr{
		func(e api.Expr) api.Expr { return ex(api.ExNeg, "", e) },
		func(e api.Expr) api.Expr { return ex(api.ExSub, "", e, num("0")) },
		func(e api.Expr) api.Expr { return ex(api.ExSub, "", name("n"), e) },
	} {
		e, wrong := name("n"), api.Expr{Op: api.ExIndex, At: 5, Name: "k", Kids: []api.Expr{num("2")}}
		for range deep {
			e, wrong = around(e), around(wrong)
		}
		if v, f := bind.Come(e, values); told(v) != "int 5" || f != (api.Fault{}) {
			t.Errorf("a deep expression: %s, %s", told(v), shownFault(f))
		}
		if v, f := bind.Come(wrong, values); !isNone(v) || f != (api.Fault{E: api.ErrRange, At: 5}) {
			t.Errorf("a deep expression with a fault: %s, %s", told(v), shownFault(f))
		}
	}
	e := num("1")
	for range deep {
		e = ex(api.ExIndex, "k", e)
	}
	if v, f := bind.Come(e, values); told(v) != "int 1" || f != (api.Fault{}) {
		t.Errorf("a deep index: %s, %s", told(v), shownFault(f))
	}
	var p api.Prog
	p.Blocks[api.BkData] = api.Block{Is: true, Decls: []api.Decl{{Type: api.TyInts, Name: "k", Size: []api.Expr{num("1")}}, {Type: api.TyVec, Name: "v", Size: []api.Expr{e}, Lower: []api.Expr{e}, Upper: []api.Expr{e}}}}
	l, f := bind.Bind(p, items(t, "k = [1]; v = [1.0];"))
	if f != (api.Fault{}) || toldAll(l) != "k ints 1; v vector 1" {
		t.Errorf("deep bounds: %s, %s", toldAll(l), shownFault(f))
	}
}

// R1: what is very wide: calls, values, declarations, items.
func TestWide(t *testing.T) {
	const wide = 100000
	for _, f := range []string{"sum", "size", "exp"} {
		e := api.Expr{Op: api.ExCall, At: 3, Name: f, Kids: slices.Repeat([]api.Expr{num("1")}, wide)}
		if v, got := bind.Come(e, nil); !isNone(v) || got != (api.Fault{E: api.ErrType, At: 3}) {
			t.Errorf("%s of many: %s, %s", f, told(v), shownFault(got))
		}
	}
	values := slices.Repeat(some(), wide/10)
	if v, f := bind.Come(name("n"), values); told(v) != "int 3" || f != (api.Fault{}) {
		t.Errorf("of many values: %s, %s", told(v), shownFault(f))
	}
	var source, data, want strings.Builder
	for i := range 1000 {
		s := strconv.Itoa(i)
		source.WriteString("int n" + s + ";")
		data.WriteString("n" + s + "=" + s + ";")
		if i > 0 {
			want.WriteString("; ")
		}
		want.WriteString("n" + s + " int " + s)
	}
	binds(t, "data { "+source.String()+" }", data.String(), want.String())
	long := list("y", slices.Repeat([]api.Frac{ratio(1, 1)}, wide)...)
	failsItems(t, api.ErrData, "data { ^vector[1000] y; }", []api.Datum{long})
	many := slices.Repeat([]api.Datum{one("other", ratio(1, 2))}, wide)
	bindsItems(t, "data { int n; }", append(many, one("n", ratio(7, 1))), "n int 7")
}
