package fore_test

import (
	"math/rand/v2"
	"reflect"
	"slices"
	"strconv"
	"strings"
	"sync"
	"testing"

	"stepstone/api"
	"stepstone/fore"
)

// span is memory that something has: a list with its spare capacity.
type span struct {
	from, to uintptr
	what     string
}

type spans []span

// of finds all lists that a thing has, at all depths.
func (l *spans) of(what string, x any) { l.value(what, reflect.ValueOf(x)) }

func (l *spans) value(what string, v reflect.Value) {
	switch v.Kind() {
	case reflect.Struct:
		for i := range v.NumField() {
			l.value(what+"."+v.Type().Field(i).Name, v.Field(i))
		}
	case reflect.Slice:
		if v.Cap() > 0 {
			from := v.Pointer()
			*l = append(*l, span{from, from + uintptr(v.Cap())*v.Type().Elem().Size(), what})
		}
		for i := range v.Len() {
			l.value(what+"["+strconv.Itoa(i)+"]", v.Index(i))
		}
	}
}

func (l spans) apart(t *testing.T) {
	t.Helper()
	slices.SortFunc(l, func(a, b span) int { return int(int64(a.from) - int64(b.from)) })
	for i := 1; i < len(l); i++ {
		if l[i].from < l[i-1].to {
			t.Errorf("%s and %s share memory", l[i-1].what, l[i].what)
		}
	}
}

// roomy is a thing, in new memory, whose lists have room for two more, at all depths, which is filled.
func roomy[T any](x T) T {
	return roomyOf(reflect.ValueOf(&x).Elem()).Interface().(T)
}

func roomyOf(v reflect.Value) reflect.Value {
	out := reflect.New(v.Type()).Elem()
	switch v.Kind() {
	case reflect.Struct:
		for i := range v.NumField() {
			out.Field(i).Set(roomyOf(v.Field(i)))
		}
	case reflect.String:
		out.SetString(strings.Clone(v.String()))
	case reflect.Slice:
		l := reflect.MakeSlice(v.Type(), v.Len()+2, v.Len()+2)
		for i := range v.Len() {
			l.Index(i).Set(roomyOf(v.Index(i)))
		}
		for i := range 2 {
			spoilValue(l.Index(v.Len() + i))
		}
		out.Set(l.Slice(0, v.Len()))
	default:
		out.Set(v)
	}
	return out
}

// whole is a thing with what is behind its lists, at all depths, as one that can be held against another.
func whole(x any) any { return wholeOf(reflect.ValueOf(x)) }

func wholeOf(v reflect.Value) any {
	var out []any
	switch v.Kind() {
	case reflect.Struct:
		for i := range v.NumField() {
			out = append(out, wholeOf(v.Field(i)))
		}
	case reflect.Slice:
		out = append(out, v.Len())
		v = v.Slice(0, v.Cap())
		for i := range v.Len() {
			out = append(out, wholeOf(v.Index(i)))
		}
	default:
		return v.Interface()
	}
	return out
}

// spoil writes to all that the lists of a thing have, and behind it, at all depths.
func spoil(p any) { spoilValue(reflect.ValueOf(p).Elem()) }

func spoilValue(v reflect.Value) {
	switch v.Kind() {
	case reflect.Bool:
		v.SetBool(!v.Bool())
	case reflect.Int:
		v.SetInt(93)
	case reflect.Uint8, reflect.Uint64:
		v.SetUint(92)
	case reflect.String:
		v.SetString("spoiled")
	case reflect.Struct:
		for i := range v.NumField() {
			spoilValue(v.Field(i))
		}
	case reflect.Slice:
		v = v.Slice(0, v.Cap())
		for i := range v.Len() {
			spoilValue(v.Index(i))
		}
	}
}

// twoPars has each parameter at several steps, numbers, and each Op.
func twoPars() api.Tape {
	return tapeOf(2, par(0), par(0), par(1), number(5, 3), number(7, 1), par(1), number(0, 1), one(api.NdNeg, 0), one(api.NdNeg, 7), two(api.NdAdd, 0, 6), two(api.NdAdd, 0, 2),
		two(api.NdSub, 2, 3), two(api.NdMul, 0, 4), two(api.NdMul, 0, 0), two(api.NdDiv, 3, 2), one(api.NdExp, 0), one(api.NdLog, 2), one(api.NdRoot, 2), one(api.NdNeed, 2), one(api.NdNeed, 0), par(0))
}

func someBoxes() [][]api.Ivl {
	long := some(odd(plus(pow2(700), 1), -690), odd(plus(pow2(901), 3), -890))
	return [][]api.Ivl{knowns("1 3, 5 9"), knowns("3, 3"), knowns("-1 1, 1p-9 7"), knowns("0, 0"), knowns("?, 3"), knowns("!, ?"), {long, long}, knowns("-7 -5, 1p-900 1p900")}
}

func somePoints() [][]api.Dyad {
	return [][]api.Dyad{nums("3", "5"), nums("-1p-3", "7p-2"), nums("0", "1"), {small(12, 0), odd(plus(pow2(700), 1), -690)}, {odd(plus(pow2(200), 1), 9), small(96, -4)}}
}

// R5: what is handed in stays as it was, with what is behind its lists; a result is new memory, no two lists of which are one; R4: what is done to a result is not seen in a later one.
func TestRunIsNewMemory(t *testing.T) {
	for _, box := range someBoxes() {
		for _, p := range []int{4, 64, 1000} {
			x, given := roomy(twoPars()), roomy(box)
			beforeTape, beforeBox := whole(x), whole(given)
			want := byHand(twoPars(), box, p)
			first, _ := fore.Run(x, given, p)
			second, _ := fore.Run(x, given, p)
			var l spans
			l.of("tape", x)
			l.of("box", given)
			l.of("first", first)
			l.of("second", second)
			l.apart(t)
			spoil(&first)
			third, e := fore.Run(x, given, p)
			if e != api.OK || !allSame(second, want) || !allSame(third, want) {
				t.Errorf("of %s: %s, %s, %d, want %s", shown(box...), shown(second...), shown(third...), e, shown(want...))
			}
			if !reflect.DeepEqual(beforeTape, whole(x)) || !reflect.DeepEqual(beforeBox, whole(given)) {
				t.Errorf("of %s: what was handed in was changed", shown(box...))
			}
			spoil(&x)
			spoil(&given)
			if !allSame(second, want) || !allSame(third, want) {
				t.Errorf("of %s: what is done to an argument is seen in a result", shown(box...))
			}
		}
	}
}

// R5: the same for Point.
func TestPointIsNewMemory(t *testing.T) {
	for _, q := range somePoints() {
		q = append(q, q...)
		given := roomy(q)
		before := whole(given)
		want := pointOf([]api.Dyad{normal(q[0]), normal(q[1]), normal(q[2]), normal(q[3])})
		first, _ := fore.Point(given)
		second, _ := fore.Point(given)
		var l spans
		l.of("point", given)
		l.of("first", first)
		l.of("second", second)
		l.apart(t)
		spoil(&first)
		third, e := fore.Point(given)
		if !reflect.DeepEqual(before, whole(given)) {
			t.Errorf("%s was changed", shownPoint(q))
		}
		spoil(&given)
		if e != api.OK || !allSame(second, want) || !allSame(third, want) {
			t.Errorf("of %s: %s, %s, %d", shownPoint(q), shown(second...), shown(third...), e)
		}
	}
}

// R5: the same for At, with each step as Out.
func TestAtIsNewMemory(t *testing.T) {
	for _, q := range somePoints() {
		box := pointOf([]api.Dyad{normal(q[0]), normal(q[1])})
		for out := range twoPars().Nodes {
			x, given := roomy(withOut(twoPars(), out)), roomy(q)
			beforeTape, beforePoint := whole(x), whole(given)
			want := byHand(twoPars(), box, 64)[out]
			first, _ := fore.At(x, given, 1)
			second, _ := fore.At(x, given, 1)
			var l spans
			l.of("tape", x)
			l.of("point", given)
			l.of("first", first)
			l.of("second", second)
			l.apart(t)
			spoil(&first)
			third, e := fore.At(x, given, 1)
			if !reflect.DeepEqual(beforeTape, whole(x)) || !reflect.DeepEqual(beforePoint, whole(given)) {
				t.Errorf("Out %d of %s: what was handed in was changed", out, shownPoint(q))
			}
			spoil(&x)
			spoil(&given)
			if e != api.OK || !same(second, want) || !same(third, want) {
				t.Errorf("Out %d of %s: %s, %d, want %s", out, shownPoint(q), shown(second, third), e, shown(want))
			}
		}
	}
}

// R5: what is refused stays as it was, too.
func TestRefusedUnchanged(t *testing.T) {
	for _, x := range noTapes() {
		if len(x.tape.Nodes) > 100 {
			continue
		}
		given, box, q := roomy(x.tape), roomy(knowns("1 2, 3")), roomy(nums("1", "2"))
		before := []any{whole(given), whole(box), whole(q)}
		fore.Run(given, box, 64)
		fore.At(given, q, 1)
		if !reflect.DeepEqual(before, []any{whole(given), whole(box), whole(q)}) {
			t.Errorf("%s: what was handed in was changed", x.what)
		}
	}
	for k, a := range noDyads() {
		x, box, q := roomy(twoPars()), roomy([]api.Ivl{known("1 2"), some(a, a)}), roomy([]api.Dyad{num("1"), a})
		before := []any{whole(x), whole(box), whole(q)}
		fore.Run(x, box, 64)
		fore.Point(q)
		fore.At(x, q, 1)
		if !reflect.DeepEqual(before, []any{whole(x), whole(box), whole(q)}) {
			t.Errorf("number %d: what was handed in was changed", k)
		}
	}
}

// R4: calls side by side, also on the same tape and box, and what was called before, do not matter.
func TestSideBySide(t *testing.T) {
	g := rand.New(rand.NewPCG(18, 20))
	var tapes []api.Tape
	var boxes, rows [][]api.Ivl
	for range 40 {
		x := anyTape(g, 25)
		box := anyBox(g, x.Pars)
		tapes, boxes, rows = append(tapes, x), append(boxes, box), append(rows, byHand(x, box, 70))
	}
	point := nums("1", "-1", "5")
	want := byHand(ordinary(), pointOf(point), 96)[14]
	shared := ordinary()
	var wait sync.WaitGroup
	for k := range 8 {
		wait.Go(func() {
			for i := range tapes {
				i = (i*7 + k*5) % len(tapes)
				if l, e := fore.Run(tapes[i], boxes[i], 70); e != api.OK || !allSame(l, rows[i]) {
					t.Errorf("%s, %s: %s, %d", shownTape(tapes[i]), shown(boxes[i]...), shown(l...), e)
				}
				if a, e := fore.At(shared, point, 2); e != api.OK || !same(a, want) {
					t.Errorf("At = %s, %d, want %s", shown(a), e, shown(want))
				}
			}
		})
	}
	wait.Wait()
}
