package parse_test

import (
	"fmt"
	"slices"
	"strings"
	"sync"
	"testing"
	"unsafe"

	"stepstone/api"
	"stepstone/parse"
)

// span is memory that a part of a tree has: of a list with its spare capacity, or of a text.
type span struct {
	from, to uintptr
	what     string
}

type spans []span

func (l *spans) text(s string) {
	if s != "" {
		from := uintptr(unsafe.Pointer(unsafe.StringData(s)))
		*l = append(*l, span{from, from + uintptr(len(s)), "the text " + s})
	}
}

func list[T any](l *spans, x []T, what string) {
	if cap(x) > 0 {
		from := uintptr(unsafe.Pointer(unsafe.SliceData(x)))
		*l = append(*l, span{from, from + uintptr(cap(x))*unsafe.Sizeof(x[:1][0]), what})
	}
}

func (l *spans) exprs(x []api.Expr) {
	list(l, x, "expressions "+toldExprs(x))
	for _, e := range x {
		l.text(e.Name)
		l.exprs(e.Kids)
	}
}

func (l *spans) stmts(x []api.Stmt) {
	list(l, x, "statements "+toldStmts(x))
	for _, s := range x {
		l.text(s.Name)
		l.exprs(s.Kids)
		l.stmts(s.Body)
		l.stmts(s.Else)
	}
}

func (l *spans) prog(p api.Prog) {
	for _, b := range p.Blocks {
		list(l, b.Decls, "declarations "+toldDecls(b.Decls))
		for _, d := range b.Decls {
			l.text(d.Name)
			for _, x := range [][]api.Expr{d.Size, d.Lower, d.Upper, d.Init} {
				l.exprs(x)
			}
		}
		l.stmts(b.Stmts)
	}
}

func (l spans) apart(t *testing.T) {
	t.Helper()
	slices.SortFunc(l, func(a, b span) int { return int(int64(a.from) - int64(b.from)) })
	for i := 1; i < len(l); i++ {
		if l[i].from < l[i-1].to {
			t.Errorf("%s and %s share memory", shown(l[i-1].what), shown(l[i].what))
		}
	}
}

// sources are those of programs of some forms.
func sources() []string {
	return []string{
		"", "model { }", ordinaryProgram(),
		"data { int n; int n; int n; array[n] int n; }",
		"model { a = a; a[a] = a; a[a] = a; a ~ a(a, a, a, a, a); (a) ~ a(); target += a; }",
		"model { for (i in i:i) { a = i; a = i; a = i; } if (a < a) { a = a; a = a; a = a; } else { a = a; { a = a; } } }",
		"model { target += a + a - a * a / a; " + strings.Repeat("a = 1; ", 100) + "}",
	}
}

// R5: a tree is new memory, of which no two lists and texts share any, and none is the source's.
func TestNewMemory(t *testing.T) {
	for _, s := range sources() {
		s = strings.Clone(s)
		p, f := parse.Parse(s)
		if f != (api.Fault{}) {
			t.Fatal(shown(s), shownFault(f))
		}
		var l spans
		l.text(s)
		l.prog(p)
		if len(s) > 10 && len(l) < 8 {
			t.Errorf("%s has %d spans", shown(s), len(l))
		}
		l.apart(t)
	}
	for _, s := range []string{"a", "1", "a + a", "-a * (a - a) / a[a]", "a(a, a, a(a), 1, 1, 1)"} {
		s = strings.Clone(s)
		e, f := parse.Expr(s)
		if f != (api.Fault{}) {
			t.Fatal(shown(s), shownFault(f))
		}
		var l spans
		l.text(s)
		l.exprs([]api.Expr{e})
		l.apart(t)
	}
}

func spoilExprs(l []api.Expr) {
	l = l[:cap(l)]
	for i := range l {
		spoilExprs(l[i].Kids)
		l[i] = api.Expr{Op: 77, At: -1, Name: "spoiled"}
	}
}

func spoilStmts(l []api.Stmt) {
	l = l[:cap(l)]
	for i := range l {
		spoilExprs(l[i].Kids)
		spoilStmts(l[i].Body)
		spoilStmts(l[i].Else)
		l[i] = api.Stmt{Op: 77, At: -1, Name: "spoiled"}
	}
}

func spoil(p api.Prog) {
	for _, b := range p.Blocks {
		for i, d := range b.Decls[:cap(b.Decls)] {
			for _, l := range [][]api.Expr{d.Size, d.Lower, d.Upper, d.Init} {
				spoilExprs(l)
			}
			b.Decls[:cap(b.Decls)][i] = api.Decl{Type: 77, At: -1, Name: "spoiled"}
		}
		spoilStmts(b.Stmts)
	}
}

// R4, R5: what is done to a tree that was returned, and behind its lists, is not seen in another one; nor does an earlier call matter.
func TestAgain(t *testing.T) {
	for _, s := range sources() {
		p, _ := parse.Parse(s)
		want := toldProg(p)
		spoil(p)
		spoiled := fmt.Sprint(p)
		for range 2 {
			fails(t, api.ErrSyntax, "model { ^]")
			failsExpr(t, api.ErrDepth, deepest()+"^(")
			reads(t, s, want)
		}
		if fmt.Sprint(p) != spoiled {
			t.Errorf("Parse(%s) wrote into an earlier tree", shown(s))
		}
	}
	e, _ := parse.Expr("a + f(1, -2)")
	want := toldExpr(e)
	spoilExprs(e.Kids)
	readsExprAlone(t, "a + f(1, -2)", want)
}

// R4: calls side by side do not matter to each other.
func TestSideBySide(t *testing.T) {
	want, _ := parse.Parse(ordinaryProgram())
	var wait sync.WaitGroup
	for range 8 {
		wait.Go(func() {
			for range 20 {
				p, f := parse.Parse(ordinaryProgram())
				if f != (api.Fault{}) || !isSame(p, want) {
					t.Error("it is read as another program")
				}
				if _, f := parse.Parse("model { } data { }"); f != (api.Fault{E: api.ErrSyntax, At: 10}) {
					t.Error(shownFault(f))
				}
			}
		})
	}
	wait.Wait()
}
