package feed_test

import (
	"math/rand/v2"
	"reflect"
	"slices"
	"strings"
	"sync"
	"testing"
	"unsafe"

	"stepstone/api"
	"stepstone/feed"
)

// span is memory that a part of items has: of a list with its spare capacity, or of a text.
type span struct {
	from, to uintptr
	what     string
}

type spans []span

func (l *spans) text(s string) {
	if s != "" {
		from := uintptr(unsafe.Pointer(unsafe.StringData(s)))
		*l = append(*l, span{from, from + uintptr(len(s)), "the text " + s})
	}
}

func room[T any](l *spans, x []T, what string) {
	if cap(x) > 0 {
		from := uintptr(unsafe.Pointer(unsafe.SliceData(x)))
		*l = append(*l, span{from, from + uintptr(cap(x))*unsafe.Sizeof(x[:1][0]), what})
	}
}

func (l *spans) items(x []api.Datum) {
	room(l, x, "items "+told(x))
	for _, d := range x {
		l.item(d)
	}
}

func (l *spans) item(d api.Datum) {
	l.text(d.Name)
	room(l, d.Nums, "numbers of "+toldItem(d))
	for _, x := range d.Nums {
		room(l, x.N.M, "a numerator of "+toldItem(d))
		room(l, x.D, "a divisor of "+toldItem(d))
	}
}

func (l spans) apart(t *testing.T) {
	t.Helper()
	slices.SortFunc(l, func(a, b span) int { return int(int64(a.from) - int64(b.from)) })
	for i := 1; i < len(l); i++ {
		if l[i].from < l[i-1].to {
			t.Errorf("%s and %s share memory", shown(l[i-1].what), shown(l[i].what))
		}
	}
}

// texts are data of some forms.
func texts() []string {
	return []string{
		"", "n=1;", "n=-1.5;", "n=[];m=[];k=[0,0,0];", "n = 3; y = [1.5, -2, 1.5, -2]; // y\n z = -7; w = [1e30, -1e-30];",
		"n=[" + strings.Repeat("1,-1,0.5,", 300) + "0];m=-0;",
	}
}

// R5: what is read is new memory, of which no two lists and names share any, and none is the text's.
func TestReadIsNewMemory(t *testing.T) {
	for _, s := range texts() {
		s = strings.Clone(s)
		items, f := feed.Read(s)
		if f != (api.Fault{}) {
			t.Fatal(shown(s), shownFault(f))
		}
		var l spans
		l.text(s)
		l.items(items)
		if s != "" && len(l) < 5 {
			t.Errorf("%s has %d spans", shown(s), len(l))
		}
		l.apart(t)
	}
}

// handed are items as they may be handed in: not only those that are read.
func handed() []api.Datum {
	return []api.Datum{
		list("y", ratio(1, 2), ratio(4, 2), ratio(0, 3), api.Frac{}, fracOf(pow2(maxBits), pow2(3)), api.Frac{N: api.Int{M: make(api.Nat, 2, 9)}, D: make(api.Nat, 1, 4)}, whole(-5), whole(-5)),
		one("n", api.Frac{N: api.Int{Neg: true, M: api.Nat{6, 0}}, D: api.Nat{3, 0}}),
		list("none"), {Name: "x", Nums: make([]api.Frac, 0, 4)}, {Name: "z", Nums: make([]api.Frac, 2, 5)},
	}
}

// R5: what is found is new memory, and none of it that of the items.
func TestFindIsNewMemory(t *testing.T) {
	l := handed()
	for _, name := range []string{"y", "n", "none", "x", "z"} {
		name := strings.Clone(name)
		first, is := feed.Find(l, name)
		second, _ := feed.Find(l, name)
		if !is || toldItem(first) != toldItem(second) {
			t.Errorf("Find of %s = %s, then %s", name, shown(toldItem(first)), shown(toldItem(second)))
		}
		var all spans
		all.text(name)
		all.items(l)
		all.item(first)
		all.item(second)
		all.apart(t)
	}
}

// roomy are the same items in lists that have room for more, which is filled.
func roomy(l []api.Datum) []api.Datum {
	out := make([]api.Datum, len(l), len(l)+2)
	for i, d := range l {
		nums := make([]api.Frac, len(d.Nums), len(d.Nums)+2)
		for j, x := range d.Nums {
			nums[j] = api.Frac{N: api.Int{Neg: x.N.Neg, M: roomyNat(x.N.M)}, D: roomyNat(x.D)}
		}
		_ = append(nums, whole(91), api.Frac{N: api.Int{Neg: true}})
		d.Nums = nums
		out[i] = d
	}
	_ = append(out, one("spare", whole(92)), api.Datum{At: 93})
	return out
}

func roomyNat(m api.Nat) api.Nat {
	out := append(make(api.Nat, 0, len(m)+2), m...)
	_ = append(out, 94, 95)
	return out
}

// all is items with what is behind their lists, at all depths, in memory of its own.
func all(l []api.Datum) []api.Datum {
	var out []api.Datum
	for _, d := range l[:cap(l)] {
		var nums []api.Frac
		for _, x := range d.Nums[:cap(d.Nums)] {
			nums = append(nums, api.Frac{N: api.Int{Neg: x.N.Neg, M: slices.Clone(x.N.M[:cap(x.N.M)])}, D: slices.Clone(x.D[:cap(x.D)])})
		}
		d.Nums = nums
		out = append(out, d)
	}
	return out
}

// R5: what is handed in stays as it was, and what is behind it; R4: the second time the result is the same.
func TestUnchanged(t *testing.T) {
	g := rand.New(rand.NewPCG(14, 9))
	for i := range 500 {
		l := anyItems(g, 6)
		switch i % 4 {
		case 0:
			l = append(l, handed()...)
		case 1:
			l = append(l, many(3)...)
			l[g.IntN(len(l))].Nums = ones(mostNumbers + 1)
		}
		l = roomy(l)
		before := all(l)
		first, e := feed.Write(l)
		for _, d := range before {
			feed.Find(l, d.Name)
		}
		if !reflect.DeepEqual(before, all(l)) {
			t.Fatalf("%s was changed", shown(told(before)))
		}
		if second, again := feed.Write(l); second != first || again != e {
			t.Errorf("%s is written as %s the second time", shown(first), shown(second))
		}
	}
}

func spoil(l []api.Datum) {
	l = l[:cap(l)]
	for i := range l {
		for j, x := range l[i].Nums[:cap(l[i].Nums)] {
			spoilNat(x.N.M)
			spoilNat(x.D)
			l[i].Nums[:cap(l[i].Nums)][j].N.Neg = true
		}
		l[i].Name, l[i].At, l[i].List = "spoiled", -1, !l[i].List
	}
}

func spoilNat(m api.Nat) {
	for i := range m[:cap(m)] {
		m[:cap(m)][i] = 77
	}
}

// R4, R5: what is done to items that were returned, and behind their lists, is not seen in others; nor does an earlier call matter.
func TestAgain(t *testing.T) {
	for _, s := range texts() {
		l, _ := feed.Read(s)
		want := told(l)
		spoil(l)
		spoiled := told(l)
		for range 2 {
			fails(t, api.ErrThere, "n=1;^n=2;")
			reads(t, s, want)
			reads(t, "n=1;", "n@0 whole 1")
		}
		if told(l) != spoiled {
			t.Errorf("Read(%s) wrote into earlier items", shown(s))
		}
	}
	l := handed()
	before := told(l)
	for _, d := range l {
		found, _ := feed.Find(l, d.Name)
		want := toldItem(found)
		spoil([]api.Datum{found})
		if told(l) != before {
			t.Errorf("what Find of %s returned is the item itself", d.Name)
		}
		finds(t, l, d.Name, want)
	}
}

// R4: calls side by side do not matter to each other.
func TestSideBySide(t *testing.T) {
	l := handed()[2:3]
	l = append(l, list("y", ratio(4, 2), whole(-3)), one("n", ratio(-9, 3)))
	var wait sync.WaitGroup
	for range 8 {
		wait.Go(func() {
			for range 50 {
				for _, s := range texts() {
					if items, f := feed.Read(s); f != (api.Fault{}) || s == texts()[1] && told(items) != "n@0 whole 1" {
						t.Errorf("Read(%s): %s", shown(s), shownFault(f))
					}
				}
				if _, f := feed.Read("n=1;n=1;"); f != (api.Fault{E: api.ErrThere, At: 4}) {
					t.Error(shownFault(f))
				}
				if s, e := feed.Write(l); e != api.OK || s != "none=[];\ny=[2,-3];\nn=-3;\n" {
					t.Errorf("Write: %s, error %d", shown(s), e)
				}
				finds(t, l, "y", "y@0 [2 -3]")
			}
		})
	}
	wait.Wait()
}
