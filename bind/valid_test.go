package bind_test

import (
	"math"
	"math/big"
	"slices"
	"strconv"
	"testing"

	"stepstone/api"
	"stepstone/bind"
)

// wrongNums are numbers that are not valid, or not normal.
func wrongNums() []api.Frac {
	tooLong := slices.Repeat(api.Nat{1}, maxBits/64+1)
	number := func(neg bool, n, d api.Nat) api.Frac { return api.Frac{N: api.Int{Neg: neg, M: n}, D: d} }
	return []api.Frac{
		{}, number(false, api.Nat{1}, nil), number(true, api.Nat{1}, api.Nat{}), number(false, api.Nat{1}, api.Nat{0}), number(false, nil, api.Nat{0, 0}), number(false, api.Nat{7}, make(api.Nat, 3000)),
		number(false, tooLong, api.Nat{1}), number(false, api.Nat{1}, tooLong), number(true, tooLong, tooLong), number(false, append(make(api.Nat, 4000), 1), api.Nat{3}), fracOf(pow2(maxBits), pow2(maxBits-1)),
		number(false, api.Nat{2}, api.Nat{4}), number(false, api.Nat{4}, api.Nat{2}), number(true, api.Nat{3}, api.Nat{3}), number(false, nil, api.Nat{2}), number(false, api.Nat{0}, api.Nat{1}), number(true, nil, api.Nat{1}), number(true, api.Nat{}, api.Nat{1}), number(true, api.Nat{0, 0}, api.Nat{1}),
		number(false, api.Nat{5, 0}, api.Nat{1}), number(false, api.Nat{5}, api.Nat{1, 0}), number(true, api.Nat{1}, api.Nat{3, 0, 0}), number(false, append(api.Nat{5}, make(api.Nat, 2048)...), api.Nat{1}),
		fracOf(times(allOnes(500), big.NewInt(35)), times(allOnes(600), big.NewInt(14))), fracOf(pow2(900), pow2(899)),
	}
}

// wrongValues are such that are not valid, in each way, with a name.
func wrongValues(name string) []api.Value {
	x := ratio(1, 2)
	nums := func(n int) []api.Frac { return slices.Repeat([]api.Frac{x}, n) }
	ints := func(l ...int64) []int64 { return l }
	var out []api.Value
	put := func(ty uint8, i []int64, n []api.Frac) {
		out = append(out, api.Value{Name: name, Type: ty, Ints: i, Nums: n})
	}
	for ty := range 256 {
		if ty == 0 || ty > int(api.TyReals) {
			put(uint8(ty), nil, nil)
			put(uint8(ty), ints(1), nil)
			put(uint8(ty), nil, nums(1))
		}
	}
	for _, l := range [][]int64{nil, {}, {1, 2}, {0, 0}, make([]int64, mostSize)} {
		put(api.TyInt, l, nil)
	}
	for _, n := range []int{0, 2, 3, mostSize} {
		put(api.TyReal, nil, nums(n))
	}
	for _, n := range []int64{mostInt + 1, -mostInt - 1, math.MaxInt64, math.MinInt64, 1 << 32, -1 << 62} {
		put(api.TyInt, ints(n), nil)
		put(api.TyInts, ints(n), nil)
		put(api.TyInts, ints(1, n, 2), nil)
		put(api.TyInts, ints(1, mostInt, n), nil)
	}
	for _, n := range []int{mostSize + 1, mostSize + 2, 5000} {
		put(api.TyInts, make([]int64, n), nil)
		put(api.TyVec, nil, nums(n))
		put(api.TyReals, nil, nums(n))
	}
	for _, x := range wrongNums() {
		put(api.TyReal, nil, []api.Frac{x})
		for _, ty := range []uint8{api.TyVec, api.TyReals} {
			put(ty, nil, []api.Frac{x})
			put(ty, nil, []api.Frac{x, ratio(1, 2)})
			put(ty, nil, []api.Frac{ratio(1, 2), ratio(-3, 1), x})
		}
	}
	// What belongs to other types, alone and beside what belongs to this one.
	put(api.TyInt, nil, nums(1))
	put(api.TyReal, ints(1), nil)
	put(api.TyInts, nil, nums(2))
	put(api.TyVec, ints(1, 2), nil)
	put(api.TyReals, ints(1, 2), nil)
	put(api.TyInt, ints(1), nums(1))
	put(api.TyReal, ints(1), nums(1))
	put(api.TyInts, ints(1), nums(1))
	put(api.TyVec, ints(1), nums(1))
	put(api.TyReals, ints(0), nums(3))
	return out
}

// P16.1: a value that is not valid is ErrData at 0, whether it is named or not, wherever it is, ahead of all but ErrTree.
func TestWrongValues(t *testing.T) {
	before, behind := given("n int 1; v vector 1 2"), given("r real 1/2; k ints")
	name := func(s string, at int) api.Expr { return api.Expr{Op: api.ExName, At: at, Name: s} }
	exprs := []api.Expr{
		name("x", 5), name("n", 5), {Op: api.ExNum, At: 5, Name: "7"}, name("none", 5), ex(api.ExCall, "f"), ex(api.ExCall, "exp", name("n", 5)), ex(api.ExDiv, "", name("n", 5), num("0")), ex(api.ExAdd, "", name("v", 5), name("n", 6)), ex(api.ExIndex, "v", num("7")), ex(api.ExIndex, "v", name("r", 5)),
	}
	for _, name := range []string{"x", "", "n", "size", "1"} {
		for i, v := range wrongValues(name) {
			for _, l := range [][]api.Value{{v}, slices.Concat(before, []api.Value{v}), slices.Concat([]api.Value{v}, behind), slices.Concat(before, []api.Value{v}, behind), slices.Concat([]api.Value{v}, given("x int 1; n int 2; r real 0"), behind)} {
				e := exprs[i%len(exprs)]
				if v, f := bind.Come(e, l); !isNone(v) || f != (api.Fault{E: api.ErrData}) {
					t.Errorf("Come(%s) of %s = %s, %s", shownExpr(e), cut(toldAll(l)), cut(told(v)), shownFault(f))
				}
			}
			if v, f := bind.Come(ex(api.ExNeg, ""), []api.Value{v}); !isNone(v) || f != (api.Fault{E: api.ErrTree}) {
				t.Errorf("a tree that is not valid: %s, %s", told(v), shownFault(f))
			}
		}
	}
	for _, v := range wrongValues("x") {
		for _, e := range exprs {
			checkExpr(t, e, []api.Value{v})
		}
	}
}

// P16.1: values at the edges of what is valid.
func TestRightValues(t *testing.T) {
	ofSize := func(ty uint8, n int) api.Value { return long(ty, n) }
	for _, v := range []api.Value{
		value("a", "int", "2147483648"), value("a", "int", "-2147483648"), value("a", "ints", "2147483648", "-2147483648"), ofSize(api.TyInts, mostSize), ofSize(api.TyVec, mostSize), ofSize(api.TyReals, mostSize), value("a", "ints"), value("a", "vector"), value("a", "reals"),
		{Name: "a", Type: api.TyVec, Ints: []int64{}, Nums: []api.Frac{}}, {Name: "a", Type: api.TyInts, Ints: []int64{}, Nums: []api.Frac{}}, {Name: "a", Type: api.TyInt, Ints: []int64{7}, Nums: []api.Frac{}},
		{Name: "a", Type: api.TyReal, Ints: []int64{}, Nums: []api.Frac{{N: api.Int{M: api.Nat{}}, D: api.Nat{1}}}}, {Name: "a", Type: api.TyReal, Nums: []api.Frac{{D: api.Nat{1}}}}, scalar("a", ofBits(maxBits, maxBits)), scalar("a", ofBits(1, maxBits)), scalar("a", ofBits(maxBits, 1)), {Name: "", Type: api.TyInt, Ints: []int64{7}},
	} {
		if got, f := checkExpr(t, num("7"), []api.Value{v}); told(got) != "int 7" || f != (api.Fault{}) {
			t.Errorf("beside %s: %s, %s", cut(told(v)), told(got), shownFault(f))
		}
		if v.Name == "" {
			continue
		}
		want := v
		want.Name = ""
		if got, f := checkExpr(t, name("a"), []api.Value{v}); !bind.Same(got, want) || told(got) != told(want) || f != (api.Fault{}) {
			t.Errorf("%s is %s, %s", cut(told(v)), cut(told(got)), shownFault(f))
		}
	}
}

// P16.1: trees that are not valid are ErrTree at 0, ahead of all else.
func TestNoTree(t *testing.T) {
	n := api.Expr{Op: api.ExName, At: 3, Name: "n"}
	wrong := []api.Expr{{}, {Op: 16}, {Op: 255, Name: "n"}, ex(api.ExNum, ""), ex(api.ExNum, "n"), ex(api.ExNum, "-1"), ex(api.ExNum, "1 "), ex(api.ExNum, "1x"), ex(api.ExNum, "1", n), ex(api.ExName, ""), ex(api.ExName, "1"), ex(api.ExName, "int"), ex(api.ExName, "n", n), ex(api.ExIndex, "v"), ex(api.ExIndex, "v", n, n), ex(api.ExIndex, "", n), ex(api.ExCall, ""), ex(api.ExCall, "target", n),
		ex(api.ExNeg, ""), ex(api.ExNeg, "", n, n), ex(api.ExNeg, "n", n), ex(api.ExAdd, "", n), ex(api.ExSub, "", n, n, n), ex(api.ExMul, "n", n, n), ex(api.ExDiv, ""), ex(api.ExLt, "", n, n), ex(api.ExEq, "", n, n), ex(api.ExGe, "", n, n)}
	for _, e := range wrong {
		e.At = 8
		for _, e := range []api.Expr{e, ex(api.ExNeg, "", e), ex(api.ExAdd, "", ex(api.ExDiv, "", num("1"), num("0")), e), ex(api.ExCall, "exp", name("none"), e), ex(api.ExIndex, "n", e)} {
			for _, l := range [][]api.Value{nil, some(), {{}}} {
				if v, f := bind.Come(e, l); !isNone(v) || f != (api.Fault{E: api.ErrTree}) {
					t.Errorf("Come(%+v) = %s, %s", e, told(v), shownFault(f))
				}
			}
		}
	}
}

// P16.1: of several values with one name the last one counts; those with other names, or none, don't.
func TestNames(t *testing.T) {
	for _, a := range types() {
		for _, b := range types() {
			first, last := samples(a)[1], samples(b)[2]
			first.Name, last.Name = "x", "x"
			l := slices.Concat(given("z int 5"), []api.Value{first}, given("w real 1/3"), []api.Value{last}, given("xx int 7; X int 8"))
			want := last
			want.Name = ""
			if v, f := checkExpr(t, name("x"), l); told(v) != told(want) || f != (api.Fault{}) {
				t.Errorf("the last one is %s, not %s, %s", told(want), told(v), shownFault(f))
			}
			for _, s := range []string{"-x", "x + 1", "1 - x", "x * x", "x / 2", "x[1]", "k[x]", "sum(x)", "size(x)", "dot(x, x)", "square(x)", "x * w - z", "exp(x)"} {
				checkExpr(t, parsedExpr(t, s), l)
			}
			slices.Reverse(l)
			if v, _ := checkExpr(t, name("x"), l); v.Type != a {
				t.Errorf("the last one is %s", told(v))
			}
		}
	}
	for _, l := range [][]api.Value{nil, {}, make([]api.Value, 0, 4), given("y int 1; xx int 2; X int 3"), {{Type: api.TyInt, Ints: []int64{4}}}} {
		refuses(t, api.ErrName, l, "^x", "1 + ^x", "^x[1]", "size(^x)")
		comes(t, l, "1 + 2", "int 3")
	}
	many := slices.Repeat(given("x int 1; y vector 1 2"), 300)
	many = append(many, given("x int 5")...)
	comes(t, many, "x + size(y)", "int 7")
	// A name may be a function's.
	l := given("size int 4; sum vector 1 2; exp ints 7 8; square real 1/2")
	comes(t, l, "size * size(sum) + sum(exp)", "int 23")
	comes(t, l, "square(square) * sum[exp[1] - 5]", "real 1/2")
	for i := range 20 {
		s := "x" + strconv.Itoa(i)
		comes(t, append(given("x int 1; x1 int 2"), value(s, "int", strconv.Itoa(100+i))), s, "int "+strconv.Itoa(100+i))
	}
}
