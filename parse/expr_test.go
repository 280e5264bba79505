package parse_test

import (
	"strings"
	"testing"

	"stepstone/api"
)

// P13.1: what has no operation in it.
func TestSmallExpr(t *testing.T) {
	readsExpr(t, "a", "a@0")
	readsExpr(t, "1", "1@0")
	readsExpr(t, "12.50e-3", "12.50e-3@0")
	readsExpr(t, "0e+0001", "0e+0001@0")
	readsExpr(t, "00", "00@0")
	readsExpr(t, "x_1Y", "x_1Y@0")
	readsExpr(t, "y[1]", "y@0[1@2]")
	readsExpr(t, "y[y[y[i]]]", "y@0[y@2[y@4[i@6]]]")
	readsExpr(t, "y[f(1)]", "y@0[f@2(1@4)]")
	readsExpr(t, "f()", "f@0()")
	readsExpr(t, "f(1)", "f@0(1@2)")
	readsExpr(t, "f(1, a, g(), h(2))", "f@0(1@2, a@5, g@8(), h@13(2@15))")
	readsExpr(t, "f("+strings.Repeat("1,", 500)+"1)", "f@0("+ones(501)+")")
	readsExpr(t, "f((a), (b))", "f@0(a@2, b@7)")
}

// ones are numbers as they are told, in a call of f.
func ones(n int) string {
	var out []string
	for i := range n {
		out = append(out, mark("1", 2+2*i))
	}
	return strings.Join(out, ", ")
}

// P13.1: sums and products, from the left on, products first.
func TestOrderOfOperations(t *testing.T) {
	readsExpr(t, "a+b", "add@0{a@0, b@2}")
	readsExpr(t, "a-b", "sub@0{a@0, b@2}")
	readsExpr(t, "a*b", "mul@0{a@0, b@2}")
	readsExpr(t, "a/b", "div@0{a@0, b@2}")
	readsExpr(t, "a-b-c", "sub@0{sub@0{a@0, b@2}, c@4}")
	readsExpr(t, "a/b/c", "div@0{div@0{a@0, b@2}, c@4}")
	readsExpr(t, "a-b+c-d", "sub@0{add@0{sub@0{a@0, b@2}, c@4}, d@6}")
	readsExpr(t, "a*b/c*d", "mul@0{div@0{mul@0{a@0, b@2}, c@4}, d@6}")
	readsExpr(t, "a+b*c", "add@0{a@0, mul@2{b@2, c@4}}")
	readsExpr(t, "a*b+c", "add@0{mul@0{a@0, b@2}, c@4}")
	readsExpr(t, "a-b/c-d", "sub@0{sub@0{a@0, div@2{b@2, c@4}}, d@6}")
	readsExpr(t, "a*b-c*d", "sub@0{mul@0{a@0, b@2}, mul@4{c@4, d@6}}")
	readsExpr(t, "a+b*c/d-e", "sub@0{add@0{a@0, div@2{mul@2{b@2, c@4}, d@6}}, e@8}")
	readsExpr(t, "1+a[2]*f(3)", "add@0{1@0, mul@2{a@2[2@4], f@7(3@9)}}")
	long := "a"
	want := "a@0"
	for i := range 1000 {
		long += []string{"+a", "-a"}[i%2]
		want = []string{"add", "sub"}[i%2] + "@0{" + want + ", " + mark("a", 2*i+2) + "}"
	}
	readsExpr(t, long, want)
	readsExpr(t, strings.NewReplacer("+", "*", "-", "/").Replace(long), strings.NewReplacer("add", "mul", "sub", "div").Replace(want))
}

// P13.1: ( ) leave no trace but where the expression in them is.
func TestBrackets(t *testing.T) {
	readsExpr(t, "(a)", "a@0")
	readsExpr(t, " ( ( (a) ) ) ", "a@1")
	readsExpr(t, "((1))", "1@0")
	readsExpr(t, "(a+b)", "add@0{a@1, b@3}")
	readsExpr(t, "((a)+(b))", "add@0{a@1, b@5}")
	readsExpr(t, "(a+b)*c", "mul@0{add@0{a@1, b@3}, c@6}")
	readsExpr(t, "a*(b+c)", "mul@0{a@0, add@2{b@3, c@5}}")
	readsExpr(t, "a-(b-c)", "sub@0{a@0, sub@2{b@3, c@5}}")
	readsExpr(t, "(a-b)-c", "sub@0{sub@0{a@1, b@3}, c@6}")
	readsExpr(t, "a/(b*c)", "div@0{a@0, mul@2{b@3, c@5}}")
	readsExpr(t, "(a*b)+c", "add@0{mul@0{a@1, b@3}, c@6}")
	readsExpr(t, "a+(b*c)", "add@0{a@0, mul@2{b@3, c@5}}")
	readsExpr(t, "((a+b)+c)*(d)", "mul@0{add@0{add@1{a@2, b@4}, c@7}, d@10}")
	readsExpr(t, "(f)", "f@0")
	readsExpr(t, "(f(1))", "f@0(1@3)")
	readsExpr(t, "(y[(1)])", "y@0[1@3]")
	readsExpr(t, "(-a)", "neg@0{a@2}")
	readsExpr(t, "((a - (b)) * ((c)))", "mul@0{sub@1{a@2, b@6}, c@13}")
	refusesExpr(t, "(^)", "(a^", "((a)^", "(a)^)", "(a ^]", "(a ^}", "(a ^;)", "(a ^, b)", "(a) ^(b)", "(a)^[1]", "(f)^(1)", "(1) ^2", "(a ^b)", "((^))", "a(^", "f(1)^(2)", "f(1)^[2]", "y[1]^[2]", "y[1]^(2)", "1^(2)", "1^[2]", "(a) ^a", "((a) ^1)", "(^+a)", "(a + ^)", "(^*a)")
}

// P13.1: signs ahead of what they belong to.
func TestNegative(t *testing.T) {
	readsExpr(t, "-a", "neg@0{a@1}")
	readsExpr(t, "-1", "neg@0{1@1}")
	readsExpr(t, "--a", "neg@0{neg@1{a@2}}")
	readsExpr(t, "- - - a", "neg@0{neg@2{neg@4{a@6}}}")
	readsExpr(t, "-a*b", "mul@0{neg@0{a@1}, b@3}")
	readsExpr(t, "-a/b*c", "mul@0{div@0{neg@0{a@1}, b@3}, c@5}")
	readsExpr(t, "a*-b", "mul@0{a@0, neg@2{b@3}}")
	readsExpr(t, "a*-b*c", "mul@0{mul@0{a@0, neg@2{b@3}}, c@5}")
	readsExpr(t, "a/-b/-c", "div@0{div@0{a@0, neg@2{b@3}}, neg@5{c@6}}")
	readsExpr(t, "-a+b", "add@0{neg@0{a@1}, b@3}")
	readsExpr(t, "a+-b", "add@0{a@0, neg@2{b@3}}")
	readsExpr(t, "a--b", "sub@0{a@0, neg@2{b@3}}")
	readsExpr(t, "a---b", "sub@0{a@0, neg@2{neg@3{b@4}}}")
	readsExpr(t, "-a-b", "sub@0{neg@0{a@1}, b@3}")
	readsExpr(t, "-(a*b)", "neg@0{mul@1{a@2, b@4}}")
	readsExpr(t, "-(a+b)*c", "mul@0{neg@0{add@1{a@2, b@4}}, c@7}")
	readsExpr(t, "-(-(a))", "neg@0{neg@1{a@3}}")
	readsExpr(t, "-y[1]", "neg@0{y@1[1@3]}")
	readsExpr(t, "-f(-1)", "neg@0{f@1(neg@3{1@4})}")
	readsExpr(t, "y[-1]", "y@0[neg@2{1@3}]")
	readsExpr(t, "a*(-b)", "mul@0{a@0, neg@2{b@4}}")
	readsExpr(t, "(-a)*b", "mul@0{neg@0{a@2}, b@5}")
	refusesExpr(t, "-^", "- -^", "a -^", "a - -^", "-^+a", "-^*a", "-^/a", "^+a", "^*a", "^/a", "a*^*b", "a/ ^* b", "a+^+b", "a+^*b", "a*^+b", "-(^)", "-^)", "-^;", "-^]", "a ^~", "-a ^a", "- 1 ^2", "^!= a", "a ^= b", "a^,", "^,")
}

// P13.1: comparisons are no expressions; a choice has one, between two sums, that is not in ( ).
func TestComparisons(t *testing.T) {
	for sign, op := range map[string]string{"==": "eq", "!=": "ne", "<": "lt", "<=": "le", ">": "gt", ">=": "ge"} {
		does(t, "if (a "+sign+" b) { }", "if  "+op+"{a, b} {}")
		does(t, "if ((a)"+sign+"(b)) { }", "if  "+op+"{a, b} {}")
		does(t, "if (-a + b * c"+sign+"-f(1) - y[2]) { }", "if  "+op+"{add{neg{a}, mul{b, c}}, sub{neg{f(1)}, y[2]}} {}")
		refusesIn(t,
			"if ((a ^"+sign+" b)) { }", "if (a "+sign+" b ^"+sign+" c) { }", "if (a "+sign+" (b ^"+sign+" c)) { }", "if ((a ^"+sign+" b) == c) { }", "if (^"+sign+" b) { }", "if (a "+sign+" ^) { }", "if (a "+sign+" ^"+sign+" b) { }", "if (-^"+sign+" b) { }", "if (a + ^"+sign+" b) { }", "if (a "+sign+" b ^; ) { }",
			"target += a ^"+sign+" b;", "target += (a ^"+sign+" b);", "a = b ^"+sign+" c;", "a[1 ^"+sign+" 2] = 1;", "a ~ f(b ^"+sign+" c);", "a ~ f(1, b ^"+sign+" c);", "for (i in 1 ^"+sign+" 2:3) { }", "for (i in 1:2 ^"+sign+" 3) { }", "a ^"+sign+" b;", "a ^"+sign+" b ~ f();", "(a ^"+sign+" b) ~ f();", "target += f(1, a ^"+sign+" b);", "target += y[a ^"+sign+" b];", "target += -a ^"+sign+" b;")
		refuses(t, "data { vector[1 ^"+sign+" 2] n; }", "data { array[1 ^"+sign+" 2] int n; }", "data { int<lower = (1 ^"+sign+" 2)> n; }", "transformed data { int n = 1 ^"+sign+" 2; }")
		if sign != ">" {
			refuses(t, "data { int<lower = 1 ^"+sign+" 2> n; }", "data { int<upper = 1 ^"+sign+" 2> n; }", "data { int<lower = 1, upper = 1 ^"+sign+" 2> n; }")
		}
		refusesExpr(t, "a ^"+sign+" b", "(a ^"+sign+" b)", "a ^"+sign, "^"+sign, "f(a ^"+sign+" b)", "y[a ^"+sign+" b]", "a + b ^"+sign+" c", "(a) ^"+sign+" (b)")
	}
	refusesIn(t, "if (a^) { }", "if (1^) { }", "if ((a)^) { }", "if (f(a)^) { }", "if (a + b^) { }", "if (-a^) { }", "if (a ^= b) { }", "if (a ^=) { }", "if (a ^+= b) { }", "if (a ^~ b) { }")
}

// P13.1: brackets of calls and places.
func TestCallsAndIndices(t *testing.T) {
	refusesExpr(t, "f(^", "f(^,)", "f(1,^)", "f(1,^", "f(1^", "f(1 ^2)", "f(^,1)", "f(1,^,2)", "f(1 ^;2)", "f(1 ^]", "f(1 ^}", "f(^]", "f(^;", "f ^)", "f ^f", "f ^1", "f(1)^1", "f()^f", "f()^()", "f(f()^", "f(1 ^: 2)", "f(1 ^= 2)", "f(^target)", "^target(1)", "^for(1)", "^in[1]", "f(1)^)", "f(1)^,", "f(1) ^~ g()",
		"y[^]", "y[^", "y[1^", "y[1 ^)", "y[1 ^, 2]", "y[1 ^: 2]", "y[1]^]", "y[1]^y", "y[1]^1", "y[^]", "y[y[1]^", "y[1 ^;]", "^[1]", "1^[1]", "y ^]", "y[f(^]", "y[f()^)", "y[(1^]", "y[1] ^= 2", "y[^,]")
	for _, word := range taken() {
		refusesExpr(t, "^"+word, "(^"+word+")", "-^"+word, "a + ^"+word, "a * ^"+word, "f(^"+word+")", "f(1, ^"+word+")", "y[^"+word+"]", "a ^"+word, "1 ^"+word, "f(1) ^"+word, "^"+word+"(1)", "^"+word+"[1]", "f(a ^"+word+")")
		for _, near := range nextTo(word) {
			readsExpr(t, near, mark(near, 0))
			readsExpr(t, "-"+near+"*(2)", "mul@0{neg@0{"+mark(near, 1)+"}, "+mark("2", len(near)+2)+"}")
			readsExpr(t, near+"()", mark(near, 0)+"()")
		}
	}
}

// P13.1: Expr takes a sum that is all of the source, and nothing else.
func TestExprAlone(t *testing.T) {
	refusesExpr(t, "^", " ^", "// a\n^", "^;", "a ^;", "a ^b", "a ^1", "1 ^a", "1 ^2", "a ^}", "a ^)", "a ^]", "a ^{", "a ^= 1", "a ^~ f();", "a ^+= 1", "a ^, b", "a ^: b", "^{ }", "^{ a }", "^[ a ]", "^model { }", "^data { }", "^transformed data { }", "^generated quantities { }", "^parameters { }", "^int n;", "^target", "^target += 1", "^if (a < b) { }", "^for (i in 1:2) { }", "a // b\n ^c", "(a) ^model", "a // x\n^}", "^}", "^~")
	readsExpr(t, " \t\r\na\n", "a@4")
	readsExpr(t, "// b\na // c\n", "a@5")
	m := newModel()
	for _, s := range []string{ordinaryProgram(), "model { }", "a = 1;", "a ~ f();"} {
		if f := m.checkExpr(t, s); f.E != api.ErrSyntax {
			t.Errorf("Expr(%s): %s", shown(s), shownFault(f))
		}
	}
}
