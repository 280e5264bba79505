package back_test

import (
	"math/rand/v2"
	"reflect"
	"slices"
	"strconv"
	"strings"
	"sync"
	"testing"

	"stepstone/api"
	"stepstone/back"
	"stepstone/fore"
)

// span is memory that something has: a list with its spare capacity.
type span struct {
	from, to uintptr
	what     string
}

type spans []span

// of finds all lists that a thing has, at all depths.
func (l *spans) of(what string, x any) { l.value(what, reflect.ValueOf(x)) }

func (l *spans) value(what string, v reflect.Value) {
	switch v.Kind() {
	case reflect.Struct:
		for i := range v.NumField() {
			l.value(what+"."+v.Type().Field(i).Name, v.Field(i))
		}
	case reflect.Slice:
		if v.Cap() > 0 {
			from := v.Pointer()
			*l = append(*l, span{from, from + uintptr(v.Cap())*v.Type().Elem().Size(), what})
		}
		for i := range v.Len() {
			l.value(what+"["+strconv.Itoa(i)+"]", v.Index(i))
		}
	}
}

func (l spans) apart(t *testing.T) {
	t.Helper()
	slices.SortFunc(l, func(a, b span) int { return int(int64(a.from) - int64(b.from)) })
	for i := 1; i < len(l); i++ {
		if l[i].from < l[i-1].to {
			t.Errorf("%s and %s share memory", l[i-1].what, l[i].what)
		}
	}
}

// roomy is a thing, in new memory, whose lists have room for two more, at all depths, which is filled.
func roomy[T any](x T) T {
	return roomyOf(reflect.ValueOf(&x).Elem()).Interface().(T)
}

func roomyOf(v reflect.Value) reflect.Value {
	out := reflect.New(v.Type()).Elem()
	switch v.Kind() {
	case reflect.Struct:
		for i := range v.NumField() {
			out.Field(i).Set(roomyOf(v.Field(i)))
		}
	case reflect.String:
		out.SetString(strings.Clone(v.String()))
	case reflect.Slice:
		l := reflect.MakeSlice(v.Type(), v.Len()+2, v.Len()+2)
		for i := range v.Len() {
			l.Index(i).Set(roomyOf(v.Index(i)))
		}
		for i := range 2 {
			spoilValue(l.Index(v.Len() + i))
		}
		out.Set(l.Slice(0, v.Len()))
	default:
		out.Set(v)
	}
	return out
}

// whole is a thing with what is behind its lists, at all depths, as one that can be held against another.
func whole(x any) any { return wholeOf(reflect.ValueOf(x)) }

func wholeOf(v reflect.Value) any {
	var out []any
	switch v.Kind() {
	case reflect.Struct:
		for i := range v.NumField() {
			out = append(out, wholeOf(v.Field(i)))
		}
	case reflect.Slice:
		out = append(out, v.Len())
		v = v.Slice(0, v.Cap())
		for i := range v.Len() {
			out = append(out, wholeOf(v.Index(i)))
		}
	default:
		return v.Interface()
	}
	return out
}

// spoil writes to all that the lists of a thing have, and behind it, at all depths.
func spoil(p any) { spoilValue(reflect.ValueOf(p).Elem()) }

func spoilValue(v reflect.Value) {
	switch v.Kind() {
	case reflect.Bool:
		v.SetBool(!v.Bool())
	case reflect.Int:
		v.SetInt(93)
	case reflect.Uint8, reflect.Uint64:
		v.SetUint(92)
	case reflect.String:
		v.SetString("spoiled")
	case reflect.Struct:
		for i := range v.NumField() {
			spoilValue(v.Field(i))
		}
	case reflect.Slice:
		v = v.Slice(0, v.Cap())
		for i := range v.Len() {
			spoilValue(v.Index(i))
		}
	}
}

// twoPars has each parameter at several steps, numbers, and each Op; all of it is added up.
func twoPars() api.Tape {
	x := tapeOf(2, par(0), par(0), par(1), number(5, 3), number(7, 1), par(1), number(0, 1), one(api.NdNeg, 0), one(api.NdNeg, 7), two(api.NdAdd, 0, 6), two(api.NdAdd, 0, 2),
		two(api.NdSub, 2, 3), two(api.NdMul, 0, 4), two(api.NdMul, 0, 0), two(api.NdDiv, 3, 2), one(api.NdExp, 0), one(api.NdLog, 2), one(api.NdRoot, 2), one(api.NdNeed, 2), par(0))
	for i := range len(x.Nodes) - 1 {
		x.Nodes = append(x.Nodes, two(api.NdAdd, i, len(x.Nodes)-1))
	}
	return withOut(x, len(x.Nodes)-1)
}

func someBoxes() [][]api.Ivl {
	long := some(odd(plus(pow2(700), 1), -690), odd(plus(pow2(901), 3), -890))
	return [][]api.Ivl{knowns("1 3, 5 9"), knowns("3, 3"), knowns("-1 1, 1p-9 7"), knowns("0, 1"), knowns("0, 0"), knowns("?, 3"), knowns("!, ?"), {long, long}, knowns("-7 -5, 1p-900 1p900")}
}

// R5: what is handed in stays as it was, with what is behind its lists; a result is new memory, no two lists of which are one; R4: what is done to a result is not seen in a later one.
func TestSlopesIsNewMemory(t *testing.T) {
	for _, box := range someBoxes() {
		for out := range twoPars().Nodes {
			p := []int{4, 64, 1000}[out%3]
			vals, _ := fore.Run(twoPars(), box, p)
			x, given := roomy(withOut(twoPars(), out)), roomy(vals)
			beforeTape, beforeVals := whole(x), whole(given)
			want := byHand(withOut(twoPars(), out), vals, p)
			first, _ := back.Slopes(x, given, p)
			second, _ := back.Slopes(x, given, p)
			var l spans
			l.of("tape", x)
			l.of("vals", given)
			l.of("first", first)
			l.of("second", second)
			l.apart(t)
			spoil(&first)
			third, e := back.Slopes(x, given, p)
			if !reflect.DeepEqual(beforeTape, whole(x)) || !reflect.DeepEqual(beforeVals, whole(given)) {
				t.Errorf("Out %d of %s: what was handed in was changed", out, shown(box...))
			}
			spoil(&x)
			spoil(&given)
			if e != api.OK || !allSame(second, want) || !allSame(third, want) {
				t.Errorf("Out %d of %s: %s, %s, %d, want %s", out, shown(box...), shown(second...), shown(third...), e, shown(want...))
			}
		}
	}
}

// R5: the same for Of.
func TestOfIsNewMemory(t *testing.T) {
	for _, box := range someBoxes() {
		for out := range twoPars().Nodes {
			p := []int{4, 64, 1000}[out%3]
			vals, _ := fore.Run(twoPars(), box, p)
			x, given := roomy(withOut(twoPars(), out)), roomy(box)
			beforeTape, beforeBox := whole(x), whole(given)
			wantOut, want := vals[out], byHand(withOut(twoPars(), out), vals, p)
			a, first, _ := back.Of(x, given, p)
			b, second, _ := back.Of(x, given, p)
			var l spans
			l.of("tape", x)
			l.of("box", given)
			l.of("first Out", a)
			l.of("first", first)
			l.of("second Out", b)
			l.of("second", second)
			l.apart(t)
			spoil(&a)
			spoil(&first)
			c, third, e := back.Of(x, given, p)
			if !reflect.DeepEqual(beforeTape, whole(x)) || !reflect.DeepEqual(beforeBox, whole(given)) {
				t.Errorf("Out %d of %s: what was handed in was changed", out, shown(box...))
			}
			spoil(&x)
			spoil(&given)
			if e != api.OK || !same(b, wantOut) || !same(c, wantOut) || !allSame(second, want) || !allSame(third, want) {
				t.Errorf("Out %d of %s: %s, %s, %s, %s, %d, want %s, %s", out, shown(box...), shown(b), shown(second...), shown(c), shown(third...), e, shown(wantOut), shown(want...))
			}
		}
	}
}

// R5: lists that are parts of one list, or share limbs, matter no more than lists of their own.
func TestSharedArguments(t *testing.T) {
	limbs := natOf(plus(pow2(100), 1))
	a := api.Dyad{M: api.Int{M: limbs}, E: -90}
	b := some(a, a)
	x := tapeOf(2, par(0), par(1), two(api.NdMul, 0, 1), one(api.NdNeg, 2), one(api.NdLog, 3), one(api.NdRoot, 0), two(api.NdSub, 5, 3))
	want := byHand(x, roomy([]api.Ivl{b, b, b, b, b, b, b}), 200)
	if got, e := back.Slopes(x, []api.Ivl{b, b, b, b, b, b, b}, 200); e != api.OK || !allSame(got, want) {
		t.Errorf("Slopes = %s, %d, want %s", shown(got...), e, shown(want...))
	}
	if !slices.Equal(limbs, natOf(plus(pow2(100), 1))) {
		t.Errorf("limbs are %v", limbs)
	}
}

// R5: what is refused stays as it was, too.
func TestRefusedUnchanged(t *testing.T) {
	for _, x := range noTapes() {
		if len(x.tape.Nodes) > 100 {
			continue
		}
		given, vals, box := roomy(x.tape), roomy(slices.Repeat(knowns("3"), len(x.tape.Nodes))), roomy(knowns("1 2, 3"))
		before := []any{whole(given), whole(vals), whole(box)}
		back.Slopes(given, vals, 64)
		back.Of(given, box, 64)
		if !reflect.DeepEqual(before, []any{whole(given), whole(vals), whole(box)}) {
			t.Errorf("%s: what was handed in was changed", x.what)
		}
	}
	for k, a := range noIvls() {
		x, vals, box := roomy(stepOf(api.NdMul, 2)), roomy([]api.Ivl{known("1 2"), known("3"), a}), roomy([]api.Ivl{known("1 2"), a})
		before := []any{whole(x), whole(vals), whole(box)}
		back.Slopes(x, vals, 64)
		back.Of(x, box, 64)
		if !reflect.DeepEqual(before, []any{whole(x), whole(vals), whole(box)}) {
			t.Errorf("interval %d: what was handed in was changed", k)
		}
	}
}

// R4: calls side by side, also on the same tape and lists, and what was called before, do not matter.
func TestSideBySide(t *testing.T) {
	g := rand.New(rand.NewPCG(19, 20))
	var tapes []api.Tape
	var rows, wants [][]api.Ivl
	for range 40 {
		x := anyTape(g, 25)
		vals := anyVals(g, x)
		tapes, rows, wants = append(tapes, x), append(rows, vals), append(wants, byHand(x, vals, 70))
	}
	shared, box := twoPars(), knowns("1 3, 5 9")
	vals, _ := fore.Run(shared, box, 96)
	want := byHand(shared, vals, 96)
	var wait sync.WaitGroup
	for k := range 8 {
		wait.Go(func() {
			for i := range tapes {
				i = (i*7 + k*5) % len(tapes)
				if l, e := back.Slopes(tapes[i], rows[i], 70); e != api.OK || !allSame(l, wants[i]) {
					t.Errorf("%s, %s: %s, %d", shownTape(tapes[i]), shown(rows[i]...), shown(l...), e)
				}
				if a, l, e := back.Of(shared, box, 96); e != api.OK || !same(a, vals[shared.Out]) || !allSame(l, want) {
					t.Errorf("Of = %s, %s, %d, want %s", shown(a), shown(l...), e, shown(want...))
				}
			}
		})
	}
	wait.Wait()
}
