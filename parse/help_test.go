package parse_test

import (
	"fmt"
	"reflect"
	"strconv"
	"strings"
	"testing"

	"stepstone/api"
	"stepstone/parse"
	"stepstone/tree"
)

// The words of layer 12 that are no names.
func taken() []string {
	return strings.Fields("data transformed parameters model generated quantities int real vector array for in if else target lower upper")
}

// signs is layer 11's list.
func signs() []string {
	return strings.Fields("== != <= >= += { } [ ] ( ) < > = + - * / ~ , ; :")
}

// Trees as lines: what is behind an @ is a place.

func mark(name string, at int) string { return name + "@" + strconv.Itoa(at) }

func toldExprs(l []api.Expr) string {
	var out []string
	for _, e := range l {
		out = append(out, toldExpr(e))
	}
	return strings.Join(out, ", ")
}

func toldExpr(e api.Expr) string {
	ops := map[uint8]string{api.ExNeg: "neg", api.ExAdd: "add", api.ExSub: "sub", api.ExMul: "mul", api.ExDiv: "div", api.ExEq: "eq", api.ExNe: "ne", api.ExLt: "lt", api.ExLe: "le", api.ExGt: "gt", api.ExGe: "ge"}
	switch {
	case (e.Op == api.ExNum || e.Op == api.ExName) && len(e.Kids) == 0:
		return mark(e.Name, e.At)
	case e.Op == api.ExIndex:
		return mark(e.Name, e.At) + "[" + toldExprs(e.Kids) + "]"
	case e.Op == api.ExCall:
		return mark(e.Name, e.At) + "(" + toldExprs(e.Kids) + ")"
	case ops[e.Op] != "" && e.Name == "":
		return mark(ops[e.Op], e.At) + "{" + toldExprs(e.Kids) + "}"
	}
	return fmt.Sprint(e)
}

func toldStmts(l []api.Stmt) string {
	ops := map[uint8]string{api.StSet: "set", api.StAdd: "term", api.StDist: "dist", api.StFor: "for", api.StIf: "if", api.StBlock: "block"}
	var out []string
	for _, s := range l {
		line := strings.TrimSpace(mark(ops[s.Op], s.At) + " " + s.Name + " " + toldExprs(s.Kids))
		if s.Op >= api.StFor || len(s.Body) > 0 {
			line += " {" + toldStmts(s.Body) + "}"
		}
		if len(s.Else) > 0 {
			line += " else {" + toldStmts(s.Else) + "}"
		}
		out = append(out, line)
	}
	return strings.Join(out, "; ")
}

func toldDecls(l []api.Decl) string {
	types := map[uint8]string{api.TyInt: "int", api.TyReal: "real", api.TyVec: "vector", api.TyInts: "ints", api.TyReals: "reals"}
	var out []string
	for _, d := range l {
		line := mark(types[d.Type], d.At) + " " + d.Name
		for i, list := range [][]api.Expr{d.Size, d.Lower, d.Upper, d.Init} {
			if len(list) > 0 {
				line += " " + []string{"size", "lower", "upper", "init"}[i] + " " + toldExprs(list)
			}
		}
		out = append(out, line)
	}
	return strings.Join(out, "; ")
}

func toldProg(p api.Prog) string {
	var out []string
	for i, b := range p.Blocks {
		if b.Is {
			out = append(out, strconv.Itoa(i)+": "+strings.Trim(toldDecls(b.Decls)+" | "+toldStmts(b.Stmts), " "))
		} else if len(b.Decls)+len(b.Stmts) > 0 {
			out = append(out, fmt.Sprint(b))
		}
	}
	return strings.Join(out, " || ")
}

// isSame tells whether trees are the same, with their places. (Lists that are nil, or empty, are.)
func isSame(a, b any) bool {
	return reflect.DeepEqual(a, b) || fmt.Sprint(a) == fmt.Sprint(b)
}

func shown(s string) string {
	if len(s) > 600 {
		return strconv.Quote(s[:300]) + " .. " + strconv.Quote(s[len(s)-300:]) + " of " + strconv.Itoa(len(s)) + " bytes"
	}
	return strconv.Quote(s)
}

func shownFault(f api.Fault) string {
	return "error " + strconv.Itoa(int(f.E)) + " at " + strconv.Itoa(f.At)
}

// reads checks what a source is read as.
func reads(t *testing.T, s, want string) {
	t.Helper()
	p, f := parse.Parse(s)
	if f != (api.Fault{}) || toldProg(p) != want {
		t.Errorf("Parse(%s) = %s, %s, want %s", shown(s), shown(toldProg(p)), shownFault(f), shown(want))
	}
	if tree.Check(p) != api.OK {
		t.Errorf("Parse(%s) is not valid", shown(s))
	}
}

// readsExpr is the same of Expr, and of the places where a sum stands in programs.
func readsExpr(t *testing.T, s, want string) {
	t.Helper()
	e, f := parse.Expr(s)
	if f != (api.Fault{}) || toldExpr(e) != want {
		t.Errorf("Expr(%s) = %s, %s, want %s", shown(s), shown(toldExpr(e)), shownFault(f), shown(want))
		return
	}
	if tree.CheckExpr(e) != api.OK {
		t.Errorf("Expr(%s) is not valid", shown(s))
	}
	for _, around := range sumsIn() {
		before, behind, _ := strings.Cut(around, "^")
		p, f := parse.Parse(before + s + behind)
		if f != (api.Fault{}) || !anySame(p, e, len(before)) {
			t.Errorf("Parse(%s) = %s, %s, which does not have %s in it", shown(before+s+behind), shown(toldProg(p)), shownFault(f), shown(want))
		}
	}
}

// sumsIn are programs that have a ^ where a sum is: at each place where one can be.
func sumsIn() []string {
	var out []string
	for _, s := range []string{
		"n = ^;", "n[^] = 1;", "n[1] = ^;", "target += ^;", "^ ~ f();", "x ~ f(^);", "x ~ f(1, ^, 2);",
		"for (i in ^ : 2) { }", "for (i in 1 : ^) { }", "if (^ < 2) { }", "if (1 >= ^) { } else { }", "{ n = ^; }", "for (i in 1:2) { if (a == b) { } else { target += ^; } }",
		"n = f(1, ^);", "n = y[^];",
	} {
		out = append(out, "model { "+s+" }", "transformed data { "+s+" }", "generated quantities { real z; "+s+" }")
	}
	for _, d := range []string{"int<lower = ^> n;", "int<upper = ^> n;", "real<lower = ^, upper = 1> n;", "real<lower = 1, upper = ^> n;", "vector<lower = ^>[2] n;", "vector[^] n;", "array[^] int n;", "array[^] real n;", "array[2] real<lower = ^> n;"} {
		out = append(out, "data { "+d+" }", "transformed parameters { "+d+" }")
	}
	return append(out, "transformed data { int n = ^; }", "transformed parameters { real<lower = 0> n = ^; }", "generated quantities { vector[2] n = ^; }")
}

// anySame tells whether an expression, moved so far, is somewhere in a program.
func anySame(p api.Prog, e api.Expr, far int) bool {
	return strings.Contains(fmt.Sprintf("%v", p), fmt.Sprintf("%v", moved(e, far)))
}

func moved(e api.Expr, far int) api.Expr {
	e.At += far
	kids := e.Kids
	e.Kids = nil
	for _, k := range kids {
		e.Kids = append(e.Kids, moved(k, far))
	}
	return e
}

// marked is a source in which a ^ tells a place, and that place.
func marked(t *testing.T, s string) (string, int) {
	t.Helper()
	before, behind, is := strings.Cut(s, "^")
	if !is {
		t.Fatalf("%s has no mark", shown(s))
	}
	return before + behind, len(before)
}

// fails checks that a source of a program has an error where a ^ is in it.
func fails(t *testing.T, e api.Errno, s string) {
	t.Helper()
	parseCall().fails(t, e, s)
}

// failsExpr is the same for one of a sum.
func failsExpr(t *testing.T, e api.Errno, s string) {
	t.Helper()
	exprCall().fails(t, e, s)
}

// refuses checks that sources are no programs, from where a ^ is in them on.
func refuses(t *testing.T, sources ...string) {
	t.Helper()
	for _, s := range sources {
		fails(t, api.ErrSyntax, s)
	}
}

// refusesIn is the same for what is in a model.
func refusesIn(t *testing.T, stmts ...string) {
	t.Helper()
	for _, s := range stmts {
		refuses(t, "model { "+s+" }", "generated quantities { real z = 1; { "+s+" } }")
	}
}

// refusesExpr checks that sources are no sums, from where a ^ is in them on.
func refusesExpr(t *testing.T, sources ...string) {
	t.Helper()
	for _, s := range sources {
		failsExpr(t, api.ErrSyntax, s)
	}
}

func isZero(a any) bool { return reflect.ValueOf(a).IsZero() }
