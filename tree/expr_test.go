package tree_test

import (
	"strconv"
	"strings"
	"testing"

	"stepstone/api"
)

// P12.1, P12.2: each kind of expression.
func TestExpr(t *testing.T) {
	x, one := name("x"), num("1")
	writes(t, one, "1")
	writes(t, num("2.50e-03"), "2.50e-03")
	writes(t, x, "x")
	writes(t, index("y", one), "y [ 1 ]")
	writes(t, index("y", index("k", x)), "y [ k [ x ] ]")
	writes(t, call("f"), "f ( )")
	writes(t, call("f", x), "f ( x )")
	writes(t, call("f", x, one), "f ( x , 1 )")
	writes(t, call("f", call("g"), call("h", x, call("i"))), "f ( g ( ) , h ( x , i ( ) ) )")
	writes(t, neg(x), "- x")
	writes(t, neg(one), "- 1")
	writes(t, sum(x, one), "x + 1")
	writes(t, less(x, one), "x - 1")
	writes(t, times(x, one), "x * 1")
	writes(t, by(x, one), "x / 1")
	var many []api.Expr
	for i := range 1000 {
		many = append(many, num(strconv.Itoa(i)))
	}
	var texts []string
	for _, e := range many {
		texts = append(texts, e.Name)
	}
	writes(t, call("f", many...), "f ( "+strings.Join(texts, " , ")+" )")
}

// P12.1, P12.2: lists that are nil and lists that are empty are the same.
func TestExprEmptyLists(t *testing.T) {
	for _, kids := range [][]api.Expr{nil, {}, make([]api.Expr, 0, 5), exprs(api.Expr{Op: 99})[:0]} {
		writes(t, api.Expr{Op: api.ExNum, Name: "1", Kids: kids}, "1")
		writes(t, api.Expr{Op: api.ExName, Name: "x", Kids: kids}, "x")
		writes(t, api.Expr{Op: api.ExCall, Name: "f", Kids: kids}, "f ( )")
		refusesOne(t, "- of nothing", api.Expr{Op: api.ExNeg, Kids: kids})
		refusesOne(t, "+ of nothing", api.Expr{Op: api.ExAdd, Kids: kids})
		refusesOne(t, "index without one", api.Expr{Op: api.ExIndex, Name: "x", Kids: kids})
	}
}

// P12.2: the chapter's examples.
func TestExamples(t *testing.T) {
	writes(t, abc(func(a, b, c api.Expr) api.Expr { return less(less(a, b), c) }), "a - b - c")
	writes(t, abc(func(a, b, c api.Expr) api.Expr { return less(a, less(b, c)) }), "a - ( b - c )")
	writes(t, neg(sum(name("a"), num("1"))), "- ( a + 1 )")
	writesAll(t, in(api.BkData, decls(decl(api.TyInt, "n", nil, exprs(num("0")), nil, nil)), nil), "data {|int < lower = 0 > n ;|}|")
}

// P12.1: kinds that are none, with whatever the others have.
func TestExprNoKind(t *testing.T) {
	one := num("1")
	for op := range 256 {
		if op >= int(api.ExNum) && op <= int(api.ExGe) {
			continue
		}
		for _, s := range []string{"", "x", "1", "f"} {
			for n := range 4 {
				e := ex(uint8(op), s, exprs(one, one, one)[:n]...)
				refusesOne(t, "kind "+strconv.Itoa(op), e)
			}
		}
	}
	for _, op := range []uint8{0, 16, 17, 100, 254, 255} {
		refuses(t, "kind "+strconv.Itoa(int(op)), ex(op, "", one, one))
		refuses(t, "kind "+strconv.Itoa(int(op)), ex(op, "x"))
	}
	refuses(t, "the zero expression", api.Expr{})
}

// P12.1: each kind with another number of kids, without a name or with one, and with one of the wrong kind.
func TestExprWrong(t *testing.T) {
	one := num("1")
	three := exprs(one, one, one)
	for n := range 4 {
		for _, s := range []string{"", "x", "1", "target", "x y", "1 2", " ", "_", "1.5"} {
			for op := api.ExNum; op <= api.ExDiv; op++ {
				isNamed, isNumber := s == "x", s == "1" || s == "1.5"
				valid := false
				switch op {
				case api.ExNum:
					valid = isNumber && n == 0
				case api.ExName:
					valid = isNamed && n == 0
				case api.ExIndex:
					valid = isNamed && n == 1
				case api.ExCall:
					valid = isNamed
				case api.ExNeg:
					valid = s == "" && n == 1
				default:
					valid = s == "" && n == 2
				}
				if !valid {
					refuses(t, "kind "+strconv.Itoa(int(op))+" with "+strconv.Itoa(n)+" kids, named "+s, ex(op, s, three[:n]...))
				}
			}
		}
	}
}

// P12.1: a comparison is no expression, wherever one is to be.
func TestExprComparison(t *testing.T) {
	x := name("x")
	for _, op := range comparisons() {
		c := both(op, x, num("1"))
		refuses(t, "comparison "+strconv.Itoa(int(op)), c)
		for _, in := range comparisons() {
			refuses(t, "comparison in one", both(in, c, x))
			refusesAll(t, "comparison in one", inModel(choice(both(in, c, x), nil, nil)))
			refusesAll(t, "comparison in one", inModel(choice(both(in, x, c), nil, nil)))
		}
	}
}

// P12.1: an operation or a comparison may not have a name, not even one that is none.
func TestExprNamedOperation(t *testing.T) {
	x := name("x")
	for _, s := range []string{"x", "+", " ", "\x00", "1", "data"} {
		refuses(t, "named -", ex(api.ExNeg, s, x))
		for _, op := range append(operations(), comparisons()...) {
			refuses(t, "named operation", ex(op, s, x, x))
			refusesAll(t, "named comparison", inModel(choice(ex(op, s, x, x), nil, nil)))
		}
	}
}

// P12.1: one fault anywhere in a tree that is valid otherwise, also far down.
func TestExprDeepFault(t *testing.T) {
	wrong := exprs(api.Expr{}, num(""), num("x"), name("1"), name("for"), ex(api.ExNum, "1", num("1")), ex(api.ExNeg, ""), ex(api.ExAdd, "", num("1")), ex(api.ExIndex, "x"), both(api.ExEq, num("1"), num("1")), ex(255, ""))
	for i, e := range wrong {
		for depth := range 200 {
			switch depth % 5 {
			case 0:
				e = sum(num("1"), e)
			case 1:
				e = call("f", num("1"), e, name("x"))
			case 2:
				e = index("x", e)
			case 3:
				e = by(e, num("1"))
			case 4:
				e = neg(e)
			}
			refusesOne(t, "wrong "+strconv.Itoa(i)+" at depth "+strconv.Itoa(depth+1), e)
		}
	}
}
