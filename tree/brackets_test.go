package tree_test

import (
	"testing"

	"stepstone/api"
)

func signOf(op uint8) string {
	return map[uint8]string{api.ExAdd: " + ", api.ExSub: " - ", api.ExMul: " * ", api.ExDiv: " / ", api.ExEq: " == ", api.ExNe: " != ", api.ExLt: " < ", api.ExLe: " <= ", api.ExGt: " > ", api.ExGe: " >= "}[op]
}

func isSum(op uint8) bool { return op == api.ExAdd || op == api.ExSub }

func inBrackets(s string, is bool) string {
	if is {
		return "( " + s + " )"
	}
	return s
}

// P12.2: each operation as the first and as the second kid of each other one.
func TestBracketsOfOperations(t *testing.T) {
	a, b, c := name("a"), name("b"), name("c")
	for _, outer := range operations() {
		for _, inner := range operations() {
			first := inBrackets("a"+signOf(inner)+"b", !isSum(outer) && isSum(inner))
			writes(t, both(outer, both(inner, a, b), c), first+signOf(outer)+"c")
			second := inBrackets("b"+signOf(inner)+"c", isSum(inner) || !isSum(outer))
			writes(t, both(outer, a, both(inner, b, c)), "a"+signOf(outer)+second)
			writes(t, both(outer, both(inner, a, b), both(inner, b, c)), first+signOf(outer)+second)
		}
	}
}

// P12.2: the same, written out.
func TestBracketsByHand(t *testing.T) {
	a, b, c, d := name("a"), name("b"), name("c"), name("d")
	for _, x := range []struct {
		e    api.Expr
		want string
	}{
		{sum(a, sum(b, c)), "a + ( b + c )"}, {sum(sum(a, b), c), "a + b + c"},
		{sum(a, less(b, c)), "a + ( b - c )"}, {less(a, sum(b, c)), "a - ( b + c )"}, {less(sum(a, b), c), "a + b - c"},
		{times(a, times(b, c)), "a * ( b * c )"}, {times(times(a, b), c), "a * b * c"},
		{times(a, by(b, c)), "a * ( b / c )"}, {by(a, times(b, c)), "a / ( b * c )"}, {by(by(a, b), c), "a / b / c"}, {by(a, by(b, c)), "a / ( b / c )"},
		{sum(times(a, b), times(c, d)), "a * b + c * d"}, {less(by(a, b), by(c, d)), "a / b - c / d"},
		{times(sum(a, b), sum(c, d)), "( a + b ) * ( c + d )"}, {by(less(a, b), less(c, d)), "( a - b ) / ( c - d )"},
		{sum(a, times(b, sum(c, d))), "a + b * ( c + d )"}, {sum(a, sum(b, sum(c, d))), "a + ( b + ( c + d ) )"}, {times(a, times(b, times(c, d))), "a * ( b * ( c * d ) )"},
		{sum(sum(sum(a, b), c), d), "a + b + c + d"}, {sum(sum(a, b), sum(c, d)), "a + b + ( c + d )"}, {by(by(a, b), by(c, d)), "a / b / ( c / d )"},
	} {
		writes(t, x.e, x.want)
	}
}

// P12.2: a - in front of each kind, and as either kid of each operation.
func TestBracketsOfNeg(t *testing.T) {
	a, b := name("a"), name("b")
	writes(t, neg(num("1")), "- 1")
	writes(t, neg(index("a", b)), "- a [ b ]")
	writes(t, neg(call("f", sum(a, b))), "- f ( a + b )")
	writes(t, neg(neg(a)), "- - a")
	writes(t, neg(neg(neg(num("2")))), "- - - 2")
	for _, op := range operations() {
		writes(t, neg(both(op, a, b)), "- ( a"+signOf(op)+"b )")
		writes(t, both(op, neg(a), b), "- a"+signOf(op)+"b")
		writes(t, both(op, a, neg(b)), "a"+signOf(op)+"- b")
		writes(t, both(op, neg(neg(a)), neg(neg(b))), "- - a"+signOf(op)+"- - b")
		writes(t, neg(neg(both(op, a, b))), "- - ( a"+signOf(op)+"b )")
		writes(t, neg(both(op, neg(a), neg(b))), "- ( - a"+signOf(op)+"- b )")
		writes(t, both(op, a, neg(both(op, a, b))), "a"+signOf(op)+"- ( a"+signOf(op)+"b )")
	}
}

// P12.2: numerals, names, elements and calls are never in brackets.
func TestBracketsOfOthers(t *testing.T) {
	for s, e := range map[string]api.Expr{"1.5": num("1.5"), "a": name("a"), "a [ b + c ]": index("a", sum(name("b"), name("c"))), "f ( )": call("f"), "f ( b * c , d )": call("f", times(name("b"), name("c")), name("d"))} {
		for _, op := range operations() {
			writes(t, both(op, e, e), s+signOf(op)+s)
		}
		writes(t, neg(e), "- "+s)
	}
}

// P12.2: an index, an argument, a bound, a size, an initial value, a value, and a comparison's kid are not in brackets, whatever they are.
func TestBracketsNowhere(t *testing.T) {
	a, b := name("a"), name("b")
	kids := map[string]api.Expr{"- a": neg(a), "- ( a + b )": neg(sum(a, b))}
	for _, op := range operations() {
		kids["a"+signOf(op)+"b"] = both(op, a, b)
		kids["- a"+signOf(op)+"( a"+signOf(op)+"b )"] = both(op, neg(a), both(op, a, b))
	}
	for _, op := range operations()[:2] {
		delete(kids, "- a"+signOf(op)+"( a"+signOf(op)+"b )")
	}
	for s, e := range kids {
		l := exprs(e)
		writes(t, index("x", e), "x [ "+s+" ]")
		writes(t, call("f", e), "f ( "+s+" )")
		writes(t, call("f", e, e), "f ( "+s+" , "+s+" )")
		writesIn(t, "x = "+s+" ;|", set("x", e))
		writesIn(t, "x [ "+s+" ] = "+s+" ;|", set("x", e, e))
		writesIn(t, "target += "+s+" ;|", add(e))
		writesIn(t, s+" ~ d ( ) ;|", dist("d", e))
		writesIn(t, s+" ~ d ( "+s+" , "+s+" ) ;|", dist("d", e, e, e))
		writesIn(t, "for ( i in "+s+" : "+s+" ) {|}|", loop("i", e, e))
		for _, op := range comparisons() {
			writesIn(t, "if ( "+s+signOf(op)+s+" ) {|}|", choice(both(op, e, e), nil, nil))
			writesIn(t, "if ( c"+signOf(op)+s+" ) {|}|", choice(both(op, name("c"), e), nil, nil))
		}
		writesAll(t, in(api.BkMade, decls(decl(api.TyVec, "v", l, l, l, l)), nil), "transformed data {|vector < lower = "+s+" , upper = "+s+" > [ "+s+" ] v = "+s+" ;|}|")
		writesAll(t, in(api.BkMade, decls(decl(api.TyInts, "k", l, l, l, nil)), nil), "transformed data {|array [ "+s+" ] int < lower = "+s+" , upper = "+s+" > k ;|}|")
	}
}
