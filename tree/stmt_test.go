package tree_test

import (
	"strconv"
	"strings"
	"testing"

	"stepstone/api"
)

// P12.1, P12.2: each kind of statement, with line feeds behind {, } and ; and spaces elsewhere.
func TestStmt(t *testing.T) {
	x, one := name("x"), num("1")
	writesIn(t, "")
	writesIn(t, "x = 1 ;|", set("x", one))
	writesIn(t, "x [ 1 ] = y ;|", set("x", one, name("y")))
	writesIn(t, "target += x ;|", add(x))
	writesIn(t, "x ~ flat ( ) ;|", dist("flat", x))
	writesIn(t, "x ~ exponential ( 1 ) ;|", dist("exponential", x, one))
	writesIn(t, "y [ 1 ] ~ normal ( x , 1 , x ) ;|", dist("normal", index("y", one), x, one, x))
	writesIn(t, "for ( i in 1 : x ) {|}|", loop("i", one, x))
	writesIn(t, "for ( i in 1 : x ) {|target += i ;|}|", loop("i", one, x, add(name("i"))))
	writesIn(t, "{|}|", group())
	writesIn(t, "{|x = 1 ;|target += x ;|}|", group(set("x", one), add(x)))
	writesIn(t, "x = 1 ;|target += x ;|{|}|x = 1 ;|", set("x", one), add(x), group(), set("x", one))
}

// P12.1, P12.2: a choice with each comparison, with an Else and without.
func TestStmtIf(t *testing.T) {
	x, one := name("x"), num("1")
	for op, sign := range map[uint8]string{api.ExEq: "==", api.ExNe: "!=", api.ExLt: "<", api.ExLe: "<=", api.ExGt: ">", api.ExGe: ">="} {
		c := both(op, x, one)
		writesIn(t, "if ( x "+sign+" 1 ) {|}|", choice(c, nil, nil))
		writesIn(t, "if ( x "+sign+" 1 ) {|}|", choice(c, stmts(), stmts()))
		writesIn(t, "if ( x "+sign+" 1 ) {|target += x ;|}|", choice(c, stmts(add(x)), nil))
		writesIn(t, "if ( x "+sign+" 1 ) {|}|else {|target += x ;|}|", choice(c, nil, stmts(add(x))))
		writesIn(t, "if ( x "+sign+" 1 ) {|target += 1 ;|{|}|}|else {|target += x ;|{|}|}|{|}|", choice(c, stmts(add(one), group()), stmts(add(x), group())), group())
		writesIn(t, "if ( x "+sign+" 1 ) {|}|else {|if ( x "+sign+" 1 ) {|}|else {|{|}|}|}|", choice(c, nil, stmts(choice(c, nil, stmts(group())))))
	}
}

// P12.1, P12.2: one kind in each other one, in Body and in Else.
func TestStmtInStmt(t *testing.T) {
	x, one := name("x"), num("1")
	c := both(api.ExLt, x, one)
	inner := map[string]api.Stmt{"x = 1 ;|": set("x", one), "x [ x ] = 1 ;|": set("x", x, one), "target += 1 ;|": add(one), "x ~ d ( ) ;|": dist("d", x), "for ( j in 1 : x ) {|}|": loop("j", one, x), "if ( x < 1 ) {|}|": choice(c, nil, nil), "{|}|": group()}
	for s, a := range inner {
		writesIn(t, "for ( i in x : x ) {|"+s+"}|", loop("i", x, x, a))
		writesIn(t, "{|"+s+s+"}|", group(a, a))
		writesIn(t, "if ( x < 1 ) {|"+s+"}|", choice(c, stmts(a), nil))
		writesIn(t, "if ( x < 1 ) {|}|else {|"+s+"}|", choice(c, nil, stmts(a)))
		writesIn(t, "{|{|{|for ( i in 1 : 1 ) {|"+s+"}|}|}|}|", group(group(group(loop("i", one, one, a)))))
		writesIn(t, "{|if ( x < 1 ) {|if ( x < 1 ) {|"+s+"}|else {|"+s+s+"}|}|else {|"+s+"}|}|", group(choice(c, stmts(choice(c, stmts(a), stmts(a, a))), stmts(a))))
	}
}

// P12.1: each kind with another number of kids, without a name or with one, with a Body or an Else.
func TestStmtWrong(t *testing.T) {
	x, one := name("x"), num("1")
	c := both(api.ExEq, x, one)
	for op := range 256 {
		for n := range 5 {
			for _, s := range []string{"", "x", "1", "if", "x ", "+"} {
				for lists := range 4 {
					kids := exprs(one, one, one, one)[:n]
					if op == int(api.StIf) {
						kids = exprs(c, c, c, c)[:n]
					}
					a := st(uint8(op), s, kids, stmts(add(x))[:lists%2], stmts(group())[:lists/2])
					if !isValidStmt(a) {
						refusesAll(t, "statement "+strconv.Itoa(op)+" named "+s+" with "+strconv.Itoa(n)+" kids and lists "+strconv.Itoa(lists), inModel(a))
					}
				}
			}
		}
	}
	for _, op := range []uint8{0, 7, 8, 100, 255} {
		refusesAll(t, "statement of no kind", inModel(st(op, "", nil, nil, nil)))
		refusesAll(t, "statement of no kind", inModel(add(x), st(op, "x", exprs(one), nil, nil)))
	}
	refusesAll(t, "the zero statement", inModel(api.Stmt{}))
}

// isValidStmt needs kids that are valid, and a name that is x or none.
func isValidStmt(a api.Stmt) bool {
	named := a.Name == "x"
	n, body, other := len(a.Kids), len(a.Body) > 0, len(a.Else) > 0
	switch a.Op {
	case api.StSet:
		return named && n >= 1 && n <= 2 && !body && !other
	case api.StAdd:
		return a.Name == "" && n == 1 && !body && !other
	case api.StDist:
		return named && n >= 1 && !body && !other
	case api.StFor:
		return named && n == 2 && !other
	case api.StIf:
		return a.Name == "" && n == 1
	case api.StBlock:
		return a.Name == "" && n == 0 && !other
	}
	return false
}

// P12.1: a comparison where an expression is to be, and the other way round.
func TestStmtKidsOfAnotherSort(t *testing.T) {
	x, one := name("x"), num("1")
	for _, op := range comparisons() {
		c := both(op, x, one)
		for i, a := range []api.Stmt{set("x", c), set("x", c, one), set("x", one, c), add(c), dist("d", c), dist("d", c, one), dist("d", one, c), loop("i", c, one), loop("i", one, c), choice(neg(c), nil, nil), group(add(c)), choice(c, stmts(add(c)), nil), choice(c, nil, stmts(add(c)))} {
			refusesAll(t, "comparison in statement "+strconv.Itoa(i), inModel(a))
		}
	}
	for i, e := range exprs(x, one, index("x", one), call("f"), call("f", one, one), neg(x), sum(x, one), less(x, one), times(x, one), by(x, one), api.Expr{}) {
		refusesAll(t, "no comparison "+strconv.Itoa(i), inModel(choice(e, nil, nil)))
	}
	for _, op := range comparisons() {
		for n := range 5 {
			if n != 2 {
				refusesAll(t, "comparison of "+strconv.Itoa(n), inModel(choice(ex(op, "", exprs(one, one, one, one)[:n]...), nil, nil)))
			}
		}
		refusesAll(t, "named comparison", inModel(choice(ex(op, "x", one, one), nil, nil)))
	}
}

// P12.1: one fault in a statement that is deep in others.
func TestStmtDeepFault(t *testing.T) {
	x, one := name("x"), num("1")
	c := both(api.ExLe, x, one)
	for i, wrong := range []api.Stmt{{}, add(api.Expr{}), add(name("in")), set("", one), set("x"), set("x", one, one, one), dist("d"), dist("", x), loop("i", one, c), choice(x, nil, nil), choice(c, nil, stmts(api.Stmt{})), st(api.StBlock, "x", nil, nil, nil), st(api.StBlock, "", exprs(one), nil, nil), st(api.StAdd, "", exprs(one), stmts(group()), nil), st(api.StFor, "i", exprs(one, one), nil, stmts(group()))} {
		for depth := range 100 {
			switch depth % 4 {
			case 0:
				wrong = group(add(x), wrong, add(x))
			case 1:
				wrong = loop("i", one, one, wrong)
			case 2:
				wrong = choice(c, stmts(group(), wrong), stmts(add(x)))
			case 3:
				wrong = choice(c, stmts(group()), stmts(wrong))
			}
			for _, at := range []int{api.BkMade, api.BkTurned, api.BkModel, api.BkGenerated} {
				refusesAll(t, "wrong statement "+strconv.Itoa(i)+" at depth "+strconv.Itoa(depth+1), in(at, nil, stmts(wrong)))
			}
		}
	}
}

// P12.2: many statements, side by side and within each other.
func TestStmtMany(t *testing.T) {
	var l []api.Stmt
	for range 5000 {
		l = append(l, add(num("1")))
	}
	writesIn(t, strings.Repeat("target += 1 ;|", 5000), l...)
	a := add(num("1"))
	for range 5000 {
		a = group(a)
	}
	writesIn(t, strings.Repeat("{|", 5000)+"target += 1 ;|"+strings.Repeat("}|", 5000), a)
}
