package walk_test

import (
	"math/rand/v2"
	"reflect"
	"runtime/debug"
	"slices"
	"strconv"
	"strings"
	"testing"

	"stepstone/api"
	"stepstone/walk"
)

func ex(name string, kids ...api.Expr) api.Expr { return api.Expr{Name: name, Kids: kids} }

// anyExpr has any number of kids, at all depths, and names that are all different.
func anyExpr(g *rand.Rand, depth int, next *int) api.Expr {
	*next++
	e := api.Expr{Op: uint8(g.IntN(20)), At: g.IntN(100), Name: strconv.Itoa(*next)}
	if depth > 0 {
		for range g.IntN(4) {
			e.Kids = append(e.Kids, anyExpr(g, depth-1, next))
		}
	}
	return e
}

// behind is the order in another way: by calls within calls.
func behind(e *api.Expr) []*api.Expr {
	var out []*api.Expr
	for i := range e.Kids {
		out = append(out, behind(&e.Kids[i])...)
	}
	return append(out, e)
}

func written(e *api.Expr, kids []string) string {
	return e.Name + "(" + strings.Join(kids, " ") + ")"
}

func writtenDown(e *api.Expr) string {
	var kids []string
	for i := range e.Kids {
		kids = append(kids, writtenDown(&e.Kids[i]))
	}
	return written(e, kids)
}

func TestOrder(t *testing.T) {
	e := ex("a", ex("b", ex("c"), ex("d")), ex("e"), ex("f", ex("g")))
	var names string
	for x := range walk.KidsFirst(&e) {
		names += x.Name
	}
	if names != "cdbegfa" {
		t.Errorf("the order is %s", names)
	}
	if s := walk.Up(&e, written); s != "a(b(c() d()) e() f(g()))" {
		t.Errorf("it comes to %s", s)
	}
}

// Each expression is the one in the tree, not a copy.
func TestAnyExpr(t *testing.T) {
	g := rand.New(rand.NewPCG(16, 100))
	for range 500 {
		next := 0
		e := anyExpr(g, g.IntN(6), &next)
		want := behind(&e)
		if got := slices.Collect(walk.KidsFirst(&e)); !slices.Equal(got, want) || len(got) != next {
			t.Fatalf("of %d expressions %d are produced, or in another order", next, len(got))
		}
		if got := walk.Up(&e, written); got != writtenDown(&e) {
			t.Fatalf("%s, want %s", got, writtenDown(&e))
		}
	}
}

// What is left early, and begun again, begins at the bottom.
func TestLeft(t *testing.T) {
	g := rand.New(rand.NewPCG(16, 101))
	next := 0
	e := anyExpr(g, 5, &next)
	want := behind(&e)
	all := walk.KidsFirst(&e)
	for n := range want {
		var got []*api.Expr
		for x := range all {
			if got = append(got, x); len(got) > n {
				break
			}
		}
		if !slices.Equal(got, want[:n+1]) {
			t.Fatalf("left at %d, other expressions were produced", n)
		}
	}
}

func TestUnchanged(t *testing.T) {
	g := rand.New(rand.NewPCG(16, 102))
	first, second := 0, 0
	e := anyExpr(g, 6, &first)
	g = rand.New(rand.NewPCG(16, 102))
	same := anyExpr(g, 6, &second)
	walk.Up(&e, written)
	if !reflect.DeepEqual(e, same) {
		t.Error("the expression was changed")
	}
}

// Expressions that are deeper than calls within calls could go in so small a stack, on either side, and wide ones.
func TestDeep(t *testing.T) {
	const deep = 1 << 19
	defer debug.SetMaxStack(debug.SetMaxStack(1 << 24))
	count := func(_ *api.Expr, kids []int) int {
		n := 1
		for _, k := range kids {
			n += k
		}
		return n
	}
	for _, around := range []func(e api.Expr) api.Expr{
		func(e api.Expr) api.Expr { return ex("", e) },
		func(e api.Expr) api.Expr { return ex("", e, ex("")) },
		func(e api.Expr) api.Expr { return ex("", ex(""), e) },
	} {
		e := ex("")
		for range deep {
			e = around(e)
		}
		if n := walk.Up(&e, count); n != 1+deep*len(around(e).Kids) {
			t.Errorf("a deep expression has %d parts", n)
		}
	}
	wide := ex("", slices.Repeat([]api.Expr{ex("")}, deep)...)
	if n := walk.Up(&wide, count); n != 1+deep {
		t.Errorf("a wide expression has %d parts", n)
	}
}
