package feed_test

import (
	"math/big"
	"math/rand/v2"
	"slices"
	"strconv"
	"strings"
	"testing"

	"stepstone/api"
	"stepstone/feed"
)

// P14.3: items of each kind.
func TestWrite(t *testing.T) {
	writes(t, "")
	writes(t, "n=3;\n", one("n", whole(3)))
	writes(t, "n=-3;\n", one("n", whole(-3)))
	writes(t, "n=0;\n", one("n", whole(0)))
	writes(t, "n=[];\n", list("n"))
	writes(t, "n=[];\n", api.Datum{Name: "n", List: true, Nums: []api.Frac{}})
	writes(t, "n=[3];\n", list("n", whole(3)))
	writes(t, "n=[-3];\n", list("n", whole(-3)))
	writes(t, "n=[1,-2,0,44];\n", list("n", whole(1), whole(-2), whole(0), whole(44)))
	writes(t, "n=1;\ny=[2,3];\nnone=[];\nN=-4;\nz=[0];\n", one("n", whole(1)), list("y", whole(2), whole(3)), list("none"), one("N", whole(-4)), list("z", whole(0)))
	writes(t, "n=18446744073709551616;\nm=[-340282366920938463463374607431768211456];\n", one("n", fracOf(pow2(64), big.NewInt(1))), list("m", fracOf(new(big.Int).Neg(pow2(128)), big.NewInt(1))))
	long := longest()
	writes(t, "n="+long.String()+";\nm=[-"+long.String()+"];\n", one("n", fracOf(long, big.NewInt(1))), list("m", fracOf(new(big.Int).Neg(long), big.NewInt(1))))
}

// P14.3, R7: numbers are written as they are when they are normal.
func TestWriteNormal(t *testing.T) {
	for _, x := range []struct {
		number api.Frac
		want   string
	}{
		{ratio(4, 2), "2"}, {ratio(-4, 2), "-2"}, {ratio(7, 7), "1"}, {ratio(-100, 20), "-5"}, {ratio(0, 7), "0"}, {ratio(12, 4), "3"},
		{api.Frac{N: api.Int{Neg: true}, D: api.Nat{1}}, "0"}, {api.Frac{N: api.Int{Neg: true, M: api.Nat{0, 0}}, D: api.Nat{9, 0}}, "0"},
		{api.Frac{N: api.Int{M: api.Nat{6, 0, 0}}, D: api.Nat{1, 0}}, "6"}, {api.Frac{N: api.Int{Neg: true, M: append(api.Nat{6}, make(api.Nat, 3000)...)}, D: append(api.Nat{2}, make(api.Nat, 3000)...)}, "-3"},
		{fracOf(pow2(64), pow2(64)), "1"}, {fracOf(pow2(130), pow2(66)), "18446744073709551616"}, {fracOf(longest(), longest()), "1"}, {fracOf(new(big.Int).Neg(longest()), longest()), "-1"},
		{fracOf(pow2(maxBits-1), pow2(maxBits-2)), "2"}, {fracOf(big.NewInt(0), longest()), "0"},
	} {
		writes(t, "n="+x.want+";\n", one("n", x.number))
		writes(t, "n=["+x.want+"];\n", list("n", x.number))
		writes(t, "m=2;\nn=[1,"+x.want+",-1];\n", one("m", whole(2)), list("n", whole(1), x.number, whole(-1)))
	}
}

// wrongNums are numbers that are not valid, or no integers.
func wrongNums() []api.Frac {
	return append(notValid(), ratio(1, 2), ratio(-1, 2), ratio(2, 4), ratio(-6, 4), ratio(7, 3), ratio(1, 1<<40), fracOf(big.NewInt(1), pow2(64)), fracOf(big.NewInt(-1), pow2(70)), fracOf(longest(), pow2(1)), fracOf(big.NewInt(1), longest()), api.Frac{N: api.Int{M: api.Nat{3}}, D: api.Nat{2, 0}}, api.Frac{N: api.Int{M: api.Nat{0, 1}}, D: api.Nat{1, 1}}, fracOf(new(big.Int).Add(pow2(64), big.NewInt(1)), pow2(64)))
}

// wrongNames are no names.
func wrongNames() []string {
	return append(taken(), "", " ", "_", "_a", "1", "1a", "a b", " a", "a ", "a\n", "a=", "a;", "a//", "a.b", "a-b", "é", "aé", "a\x00", "\xff", "-", "[", "=", "//", strings.Repeat("x", mostBytes+1))
}

// around calls for each row of items that are right in which the one that is given is at some place.
func around(d api.Datum, f func(l []api.Datum)) {
	right := []api.Datum{one("q", whole(1)), list("r", whole(2), ratio(6, 2)), list("s")}
	for at := range len(right) + 1 {
		f(slices.Insert(slices.Clone(right), at, d))
	}
	f([]api.Datum{d})
}

// refusesItem checks that an item can't be written, wherever it is; and that this comes ahead of what there is too much of.
func refusesItem(t *testing.T, what string, d api.Datum) {
	t.Helper()
	around(d, func(l []api.Datum) {
		refusesToWrite(t, api.ErrArg, what, l...)
		refusesToWrite(t, api.ErrArg, what+" and a long list", append(slices.Clone(l), list("long", ones(mostNumbers+1)...))...)
		refusesToWrite(t, api.ErrArg, what+" behind a long list", append([]api.Datum{list("long", ones(mostNumbers+1)...)}, l...)...)
	})
	many := many(mostItems + 1)
	for _, at := range []int{0, 500, mostItems - 1, mostItems} {
		l := slices.Clone(many)
		l[at] = d
		refusesToWrite(t, api.ErrArg, what+" among many items", l...)
	}
	refusesToWrite(t, api.ErrArg, what+" behind many items", append(many, d)...)
}

func ones(n int) []api.Frac { return slices.Repeat([]api.Frac{whole(1)}, n) }

// many are items with names that are not alike.
func many(n int) []api.Datum {
	var l []api.Datum
	for i := range n {
		l = append(l, one("a"+strconv.Itoa(i), whole(int64(i))))
	}
	return l
}

// P14.3: a Name that is none.
func TestWriteWrongName(t *testing.T) {
	for _, name := range wrongNames() {
		for _, d := range []api.Datum{one(name, whole(1)), list(name), list(name, whole(1), whole(2))} {
			refusesItem(t, "the name "+shown(name), d)
		}
	}
	for _, name := range []string{"a", "Z9", "e", "e1", "a_", "int_", "Int", "datas", strings.Repeat("x", mostBytes)} {
		writes(t, name+"=1;\n", one(name, whole(1)))
	}
}

// P14.3: a Name that occurs twice, at all places, and one that only begins like another one.
func TestWriteSameName(t *testing.T) {
	for _, d := range []api.Datum{one("q", whole(1)), list("r"), list("s", whole(7)), list("q", whole(1))} {
		l := []api.Datum{one("q", whole(1)), list("r", whole(2)), list("s"), one("t", whole(3))}
		for at := range len(l) + 1 {
			with := slices.Insert(slices.Clone(l), at, d)
			refusesToWrite(t, api.ErrArg, "a name twice", with...)
			refusesToWrite(t, api.ErrArg, "a name twice, and a long list", append(with, list("long", ones(mostNumbers+1)...))...)
		}
	}
	refusesToWrite(t, api.ErrArg, "a name three times", one("n", whole(1)), one("n", whole(1)), one("n", whole(1)))
	refusesToWrite(t, api.ErrArg, "a name twice among many", append(many(mostItems+1), one("a0", whole(0)))...)
	refusesToWrite(t, api.ErrArg, "a name twice at the end", append(many(mostItems), one("a999", whole(0)))...)
	writes(t, "n=1;\nnn=2;\nn1=3;\nN=4;\n", one("n", whole(1)), one("nn", whole(2)), one("n1", whole(3)), one("N", whole(4)))
}

// P14.3: a number that is not valid, or no integer.
func TestWriteWrongNumber(t *testing.T) {
	for _, x := range wrongNums() {
		refusesItem(t, shown(toldNum(x)), one("n", x))
		refusesItem(t, shown(toldNum(x))+" in a list", list("n", x))
		for at := range 3 {
			numbers := []api.Frac{whole(1), whole(-2)}
			refusesItem(t, shown(toldNum(x))+" among others", list("n", slices.Insert(numbers, at, x)...))
		}
	}
	for _, at := range []int{0, mostNumbers - 1, mostNumbers} {
		numbers := ones(mostNumbers + 1)
		numbers[at] = ratio(1, 2)
		refusesItem(t, "one half in a long list", list("n", numbers...))
	}
}

// P14.3: an item that is not a List, and has no number, or several.
func TestWriteWrongCount(t *testing.T) {
	for _, n := range []int{0, 2, 3, mostNumbers, mostNumbers + 1} {
		refusesItem(t, strconv.Itoa(n)+" numbers that are no list", api.Datum{Name: "n", Nums: ones(n)})
	}
	refusesItem(t, "none", api.Datum{Name: "n", Nums: []api.Frac{}})
	refusesItem(t, "the zero item", api.Datum{})
}

// P14.3: several reasons for ErrArg in one item, and in several.
func TestWriteWrongTwice(t *testing.T) {
	refusesItem(t, "all wrong", api.Datum{Name: "int", Nums: []api.Frac{{}, ratio(1, 2)}})
	refusesItem(t, "name and number", one("int", ratio(1, 2)))
	refusesItem(t, "name and count", api.Datum{Name: "_"})
	refusesToWrite(t, api.ErrArg, "number, then name", one("n", ratio(1, 2)), one("int", whole(1)))
	refusesToWrite(t, api.ErrArg, "a wrong name twice", list("int"), list("int"))
}

// P14.3: both sides of 1000 items, and of 1000 numbers.
func TestWriteFull(t *testing.T) {
	for _, n := range []int{mostItems - 1, mostItems} {
		l := many(n)
		writes(t, written(l), l...)
		l = append(many(n-1), list("y", ones(mostNumbers)...))
		writes(t, written(l), l...)
	}
	for _, n := range []int{mostNumbers - 1, mostNumbers} {
		writes(t, "y=["+strings.Repeat("1,", n-1)+"1];\n", list("y", ones(n)...))
		writes(t, "n=2;\ny=["+strings.Repeat("1,", n-1)+"1];\nz=["+strings.Repeat("1,", n-1)+"1];\n", one("n", whole(2)), list("y", ones(n)...), list("z", ones(n)...))
	}
	for _, n := range []int{mostItems + 1, mostItems + 2, 5000} {
		refusesToWrite(t, api.ErrFull, strconv.Itoa(n)+" items", many(n)...)
		refusesToWrite(t, api.ErrFull, strconv.Itoa(n)+" items, one of them a long list", append(many(n-1), list("y", ones(mostNumbers+1)...))...)
	}
	for _, n := range []int{mostNumbers + 1, mostNumbers + 2, 5000} {
		around(list("y", ones(n)...), func(l []api.Datum) {
			refusesToWrite(t, api.ErrFull, strconv.Itoa(n)+" numbers", l...)
		})
	}
	// Together they may be more.
	var l []api.Datum
	for i := range 20 {
		l = append(l, list("y"+strconv.Itoa(i), ones(mostNumbers)...))
	}
	writes(t, written(l), l...)
}

// anyName is one that none of the others is.
func anyName(g *rand.Rand, others []api.Datum) string {
	name := oneOf(g, "n", "y", "x_", "N", "int_", "e", "data", "real", "E") + strconv.Itoa(g.IntN(1000))
	if slices.ContainsFunc(others, func(d api.Datum) bool { return d.Name == name }) {
		return anyName(g, others)
	}
	return name
}

// anyWhole is an integer, which may be written with a divisor.
func anyWhole(g *rand.Rand) api.Frac {
	n := big.NewInt(g.Int64N(20) - 10)
	switch g.IntN(4) {
	case 0:
		n.SetInt64(int64(g.Uint64()))
	case 1:
		n.Mul(new(big.Int).Lsh(big.NewInt(g.Int64()+1), uint(g.IntN(200))), big.NewInt(g.Int64N(3)-1))
	}
	d := big.NewInt(1)
	if g.IntN(3) == 0 {
		d = new(big.Int).Lsh(big.NewInt(1+g.Int64N(50)), uint(g.IntN(80)))
	}
	x := fracOf(n.Mul(n, d), d)
	if g.IntN(4) == 0 {
		x.N.M, x.D = append(x.N.M, 0), append(x.D, 0, 0)
	}
	return x
}

// anyItems can be written.
func anyItems(g *rand.Rand, most int) []api.Datum {
	var l []api.Datum
	for range g.IntN(most + 1) {
		d := list(anyName(g, l))
		for range g.IntN(6) {
			d.Nums = append(d.Nums, anyWhole(g))
		}
		if g.IntN(2) == 0 {
			d = one(d.Name, anyWhole(g))
		}
		d.At, d.Whole = g.IntN(100)-50, g.IntN(2) == 0
		l = append(l, d)
	}
	return l
}

// P14.3, P14.4: items of all sorts are written as the library's numbers tell, and read as the same, but for places, with Whole set.
func TestAnyItems(t *testing.T) {
	g := rand.New(rand.NewPCG(14, 7))
	m := newModel()
	for range 5000 {
		l := anyItems(g, 10)
		s, e := feed.Write(l)
		if e != api.OK || s != written(l) {
			t.Fatalf("Write(%s) = %s, error %d, want %s", shown(told(l)), shown(s), e, shown(written(l)))
		}
		readsAgain(t, m, l, s)
	}
}

// readsAgain checks that what was written is read as the same items.
func readsAgain(t *testing.T, m *model, l []api.Datum, s string) {
	t.Helper()
	if f := m.check(t, s); f != (api.Fault{}) {
		t.Fatalf("%s: %s", shown(s), shownFault(f))
	}
	back, _ := feed.Read(s)
	if len(back) != len(l) {
		t.Fatalf("%s is read as %d items, not %d", shown(s), len(back), len(l))
	}
	at := 0
	for i, d := range l {
		same := api.Datum{Name: d.Name, At: at, List: d.List, Whole: true}
		for _, x := range d.Nums {
			n := new(big.Int).Quo(bigOf(x.N), bigOfNat(x.D))
			same.Nums = append(same.Nums, fracOf(n, big.NewInt(1)))
		}
		if toldItem(back[i]) != toldItem(same) {
			t.Errorf("%s: item %d is %s, not %s", shown(s), i, shown(toldItem(back[i])), shown(toldItem(same)))
		}
		at += len(written(l[i : i+1]))
	}
	if again, e := feed.Write(back); e != api.OK || again != s {
		t.Errorf("%s is written as %s the second time", shown(s), shown(again))
	}
}

// P14.4: as many items, and numbers, as are written and read; and what is too long to be read.
func TestReadsLong(t *testing.T) {
	m := newModel()
	readsAgain(t, m, many(mostItems), written(many(mostItems)))
	// Four tokens for each item.
	var l []api.Datum
	for i := range 3 {
		l = append(l, list("y"+strconv.Itoa(i), ones(990)...))
	}
	readsAgain(t, m, l, written(l))
	digits := func(n int) api.Frac {
		x, _ := new(big.Int).SetString("-"+strings.Repeat("7", n), 10)
		return fracOf(x, big.NewInt(1))
	}
	l = []api.Datum{one("n", digits(mostNumeral)), list("y", digits(mostNumeral), whole(0), digits(mostNumeral-1))}
	readsAgain(t, m, l, written(l))
	writes(t, "n=-"+strings.Repeat("7", mostNumeral+1)+";\n", one("n", digits(mostNumeral+1)))
	fails(t, api.ErrLong, "n=-^"+strings.Repeat("7", mostNumeral+1)+";\n")
}

// P14.3: items of all sorts, one of which is wrong.
func TestAnyWrongItems(t *testing.T) {
	g := rand.New(rand.NewPCG(14, 8))
	for range 3000 {
		l := anyItems(g, 8)
		if len(l) == 0 {
			continue
		}
		d := &l[g.IntN(len(l))]
		d.Nums = slices.Clone(d.Nums)
		switch kind := g.IntN(4); {
		case kind == 0:
			d.Name = oneOf(g, wrongNames()...)
		case kind == 1 && len(l) > 1:
			l[0].Name = l[1+g.IntN(len(l)-1)].Name
		case kind == 2 && len(d.Nums) > 0:
			d.Nums[g.IntN(len(d.Nums))] = oneOf(g, wrongNums()...)
		default:
			d.List = false
			d.Nums = append(d.Nums, whole(1), whole(2))
		}
		refusesToWrite(t, api.ErrArg, shown(told(l)), l...)
	}
}
