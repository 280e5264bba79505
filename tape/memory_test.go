package tape_test

import (
	"math/rand/v2"
	"reflect"
	"slices"
	"strconv"
	"strings"
	"sync"
	"testing"
	"unsafe"

	"stepstone/api"
	"stepstone/tape"
)

// span is memory that something has: a list with its spare capacity, or a text.
type span struct {
	from, to uintptr
	what     string
}

type spans []span

// of finds all memory that a thing has, at all depths, also behind its lists.
func (l *spans) of(what string, x any) { l.value(what, reflect.ValueOf(x)) }

func (l *spans) value(what string, v reflect.Value) {
	switch v.Kind() {
	case reflect.String:
		if s := v.String(); s != "" {
			from := uintptr(unsafe.Pointer(unsafe.StringData(s)))
			*l = append(*l, span{from, from + uintptr(len(s)), what + " " + s})
		}
	case reflect.Struct:
		for i := range v.NumField() {
			l.value(what+"."+v.Type().Field(i).Name, v.Field(i))
		}
	case reflect.Slice:
		if v.Cap() > 0 {
			from := v.Pointer()
			*l = append(*l, span{from, from + uintptr(v.Cap())*v.Type().Elem().Size(), what})
		}
		for i := range v.Len() {
			l.value(what+"["+strconv.Itoa(i)+"]", v.Index(i))
		}
	}
}

func (l spans) apart(t *testing.T) {
	t.Helper()
	slices.SortFunc(l, func(a, b span) int { return int(int64(a.from) - int64(b.from)) })
	for i := 1; i < len(l); i++ {
		if l[i].from < l[i-1].to {
			t.Errorf("%s and %s share memory", l[i-1].what, l[i].what)
		}
	}
}

// roomy is a thing, in new memory, whose lists have room for two more, at all depths, which is filled.
func roomy[T any](x T) T {
	return roomyOf(reflect.ValueOf(&x).Elem()).Interface().(T)
}

func roomyOf(v reflect.Value) reflect.Value {
	out := reflect.New(v.Type()).Elem()
	switch v.Kind() {
	case reflect.Struct:
		for i := range v.NumField() {
			out.Field(i).Set(roomyOf(v.Field(i)))
		}
	case reflect.String:
		out.SetString(strings.Clone(v.String()))
	case reflect.Slice:
		l := reflect.MakeSlice(v.Type(), v.Len()+2, v.Len()+2)
		for i := range v.Len() {
			l.Index(i).Set(roomyOf(v.Index(i)))
		}
		for i := range 2 {
			spoilValue(l.Index(v.Len() + i))
		}
		out.Set(l.Slice(0, v.Len()))
	default:
		out.Set(v)
	}
	return out
}

// whole is a thing with what is behind its lists, at all depths, as one that can be held against another.
func whole(x any) any { return wholeOf(reflect.ValueOf(x)) }

func wholeOf(v reflect.Value) any {
	var out []any
	switch v.Kind() {
	case reflect.Struct:
		for i := range v.NumField() {
			out = append(out, wholeOf(v.Field(i)))
		}
	case reflect.Slice:
		out = append(out, v.Len())
		v = v.Slice(0, v.Cap())
		for i := range v.Len() {
			out = append(out, wholeOf(v.Index(i)))
		}
	default:
		return v.Interface()
	}
	return out
}

// spoil writes to all that the lists of a thing have, and behind it, at all depths.
func spoil(p any) { spoilValue(reflect.ValueOf(p).Elem()) }

func spoilValue(v reflect.Value) {
	switch v.Kind() {
	case reflect.Bool:
		v.SetBool(!v.Bool())
	case reflect.Int:
		v.SetInt(93)
	case reflect.Uint8, reflect.Uint64:
		v.SetUint(92)
	case reflect.String:
		v.SetString("spoiled")
	case reflect.Struct:
		for i := range v.NumField() {
			spoilValue(v.Field(i))
		}
	case reflect.Slice:
		v = v.Slice(0, v.Cap())
		for i := range v.Len() {
			spoilValue(v.Index(i))
		}
	}
}

// R5: what Check, Live and Same are handed stays as it was, and what is behind its lists; R4: the second time the result is the same.
func TestTapesUnchanged(t *testing.T) {
	g := rand.New(rand.NewPCG(17, 20))
	for i := range 500 {
		x, y := roomy(anyTape(g, 20)), roomy(anyTape(g, 20))
		if i%3 == 0 {
			x.Nodes[g.IntN(len(x.Nodes))] = roomy(numOf(oneOf(g, slices.Concat(otherwise()[:10], noNumbers()[:6])...)))
		}
		before, beforeY := whole(x), whole(y)
		e, live, is := tape.Check(x), tape.Live(x), tape.Same(x, y)
		if !reflect.DeepEqual(before, whole(x)) || !reflect.DeepEqual(beforeY, whole(y)) {
			t.Fatalf("%s or %s was changed", told(x), told(y))
		}
		if tape.Check(x) != e || !slices.Equal(tape.Live(x), live) || tape.Same(x, y) != is {
			t.Errorf("%s and %s: another result the second time", told(x), told(y))
		}
	}
}

// R5: what Live returns is new memory.
func TestLiveIsNewMemory(t *testing.T) {
	x := roomy(ordinary())
	first, second := tape.Live(x), tape.Live(x)
	var l spans
	l.of("tape", x)
	l.of("first", first)
	l.of("second", second)
	l.apart(t)
	want := slices.Clone(second)
	spoil(&first)
	if !slices.Equal(second, want) || !slices.Equal(tape.Live(x), want) {
		t.Error("what is done to a result is seen in another one")
	}
}

// R5: a number that was handed to Num is not kept, and not changed.
func TestNumIsNotKept(t *testing.T) {
	for k, c := range slices.Concat(normals(), otherwise(), noNumbers()) {
		m := newMaker(t, 10)
		x := roomy(c)
		before := whole(x)
		i, e := m.Num(x)
		if !reflect.DeepEqual(before, whole(x)) {
			t.Errorf("the number %d was changed", k)
		}
		spoil(&x)
		j, f := m.Num(c)
		is(t, "Num again", i, e, j, f)
		if e == api.OK {
			isMade(t, m, tapeOf(0, numOf(normal(valueOf(c)))))
		}
	}
}

// someMaker has numbers of all kinds, parameters, and steps of them.
func someMaker(t *testing.T) *tape.Maker {
	t.Helper()
	m := newMaker(t, 100)
	for _, c := range normals() {
		m.Num(c)
	}
	m.Par()
	m.Par()
	m.Two(api.NdAdd, 1, 3)
	m.One(api.NdExp, 4)
	return m
}

// R5: what Tape is handed stays as it was, and is not kept; what it returns is new memory.
func TestTapeIsNewMemory(t *testing.T) {
	m := someMaker(t)
	tells := roomy([]api.Tell{tell("a name that is told", 1), tell("another", 0), tell("", 3), tell("another", 2)})
	for _, given := range [][]api.Tell{tells, tells[:2], tells[:0], nil} {
		before := whole(given)
		first, e := m.Tape(5, given)
		second, f := m.Tape(5, given)
		if e != api.OK || f != api.OK || !reflect.DeepEqual(before, whole(given)) {
			t.Errorf("%d, %d, or the Tells were changed", e, f)
		}
		var l spans
		l.of("tells", tells)
		l.of("first", first)
		l.of("second", second)
		l.apart(t)
		want := filled(first)
		mine := roomy(given)
		third, _ := m.Tape(5, mine)
		spoil(&mine)
		spoil(&first)
		fourth, _ := m.Tape(5, given)
		for _, x := range []api.Tape{second, third, fourth} {
			if !isSame(x, want) {
				t.Errorf("what is done to a tape is seen in another one: %s, want %s", told(x), told(want))
			}
		}
	}
}

// R5: what is done to a tape that was told changes nothing of its maker, which goes on.
func TestMakerStays(t *testing.T) {
	a, b := someMaker(t), someMaker(t)
	sum, _ := b.Two(api.NdAdd, 1, 3)
	for k := range 30 {
		n := a.Len()
		x, e := a.Tape(n-1, []api.Tell{tell("x", 0)})
		if e != api.OK {
			t.Fatal(e)
		}
		spoil(&x)
		x.Nodes = append(x.Nodes, num(99, 1))
		for _, m := range []*tape.Maker{a, b} {
			i, e := m.One(api.NdNeed, n-1)
			is(t, "One", i, e, n, api.OK)
			i, e = m.Num(ratio(int64(k+20), 7))
			is(t, "Num", i, e, n+1, api.OK)
			i, e = m.Num(ratio(-3, 7))
			is(t, "Num that is there", i, e, 4, api.OK)
			i, e = m.Two(api.NdAdd, 1, 3)
			is(t, "Two that is there", i, e, sum, api.OK)
		}
		y, _ := b.Tape(n+1, nil)
		isMade(t, a, y)
	}
}

// R3: a call that was refused has changed nothing.
func TestRefused(t *testing.T) {
	m := someMaker(t)
	want, _ := m.Tape(2, nil)
	n := m.Len()
	for _, c := range noNumbers() {
		m.Num(c)
	}
	for _, op := range noOps() {
		m.One(op, 0)
		m.Two(op, 0, 0)
	}
	for _, i := range slices.Concat(farIndices(), []int{-1, n}) {
		for _, op := range ops() {
			m.One(op, i)
			m.Two(op, i, 0)
			m.Two(op, 0, i)
		}
		m.Tape(i, nil)
		m.Tape(0, []api.Tell{tell("x", i)})
	}
	isMade(t, m, want)
	i, e := m.Num(ratio(123, 1))
	is(t, "Num", i, e, n, api.OK)
}

// R4: makers side by side do not know of each other.
func TestSideBySide(t *testing.T) {
	want, _ := someMaker(t).Tape(3, nil)
	var wait sync.WaitGroup
	for k := range 8 {
		wait.Go(func() {
			for range 20 {
				m := someMaker(t)
				m.Num(ratio(int64(k), 101))
				x, e := m.Tape(3, nil)
				x.Nodes = x.Nodes[:len(want.Nodes)]
				if e != api.OK || !tape.Same(x, want) || tape.Check(x) != api.OK || len(tape.Live(x)) != len(want.Nodes) {
					t.Errorf("%s, %d", told(x), e)
				}
			}
		})
	}
	wait.Wait()
}
