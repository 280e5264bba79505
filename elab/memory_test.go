package elab_test

import (
	"math/rand/v2"
	"reflect"
	"runtime"
	"runtime/debug"
	"strconv"
	"sync"
	"testing"

	"stepstone/api"
	"stepstone/elab"
	"stepstone/tape"
)

// R5: what is handed in stays as it is, and what is behind it.
func TestArgumentsStay(t *testing.T) {
	g := rand.New(rand.NewPCG(22, 7))
	again := rand.New(rand.NewPCG(22, 7))
	for range 600 {
		p, data := newMaker(g, 50).prog()
		q, same := newMaker(again, 50).prog()
		elab.Build(p, data, 1+g.IntN(200))
		again.IntN(200)
		if !reflect.DeepEqual(p, q) || !reflect.DeepEqual(data, same) {
			t.Fatalf("%s; %s were changed", shownTree(q), shownData(same))
		}
	}
	spare := api.Stmt{Op: 77}
	item := api.Datum{Name: "spare"}
	p := parsed(t, "data { vector[2] y; } generated quantities { vector[2] v; for (i in 1 : 2) { v[i] = y[i]; v[1] = 3; } }")
	b := &p.Blocks[api.BkGenerated]
	stmts := append(b.Stmts, spare, spare)
	b.Stmts = stmts[:1]
	body := append(b.Stmts[0].Body, spare, spare)
	b.Stmts[0].Body = body[:2]
	data := append(items(t, "y = [1, 2];"), item, item)
	if _, f := elab.Build(p, data[:1], 100); f != (api.Fault{}) {
		t.Error(shownFault(f))
	}
	for _, s := range [][]api.Stmt{stmts[1:], body[2:]} {
		if !reflect.DeepEqual(s, []api.Stmt{spare, spare}) {
			t.Errorf("behind the statements there is %v", s)
		}
	}
	if !reflect.DeepEqual(data[1:], []api.Datum{item, item}) {
		t.Errorf("behind the data there is %v", data[1:])
	}
}

const shared = "data { vector[2] y; } parameters { vector<lower=y[1]>[2] v; } model { v ~ normal(y, 1.5); } generated quantities { vector[2] w = y; real z = w[1] * v[2]; }"

// R4, R5: what is told is new memory: what is done to it, or to what was handed in, changes no other tape.
func TestTapesApart(t *testing.T) {
	p, data := parsed(t, shared), items(t, "y = [1.5, -7];")
	x, f := elab.Build(p, data, 100)
	want := made(t, shared, "y = [1.5, -7];")
	if f != (api.Fault{}) || !tape.Same(x, want) {
		t.Fatalf("%s", shownFault(f))
	}
	for i := range data[0].Nums {
		data[0].Nums[i].N.M[0], data[0].Nums[i].D[0] = 93, 93
	}
	p.Blocks[api.BkGenerated].Decls[0] = api.Decl{}
	if !tape.Same(x, want) {
		t.Errorf("%s, want %s", shownTape(x), shownTape(want))
	}
	y := made(t, shared, "y = [1.5, -7];")
	for i := range y.Nodes {
		for _, l := range [][]uint64{y.Nodes[i].C.N.M, y.Nodes[i].C.D} {
			for j := range l[:cap(l)] {
				l[:cap(l)][j] = 93
			}
		}
	}
	for i := range y.Tells[:cap(y.Tells)] {
		y.Tells[:cap(y.Tells)][i] = api.Tell{Name: "93"}
	}
	for i := range y.Nodes[:cap(y.Nodes)] {
		y.Nodes[:cap(y.Nodes)][i] = api.Node{Op: 93}
	}
	if !tape.Same(x, want) || !tape.Same(made(t, shared, "y = [1.5, -7];"), want) {
		t.Errorf("%s, want %s", shownTape(x), shownTape(want))
	}
}

// R5: two numbers of one tape share no memory.
func TestNumbersApart(t *testing.T) {
	x := made(t, "data { array[4] real q; } transformed data { real a; a = q[1]; } model { target += q[1] + q[2] + q[3] + 1.5 + a; } generated quantities { real b = sum(q); }", "q = [1.5, 1.5, 3, 0.5];")
	for i := range x.Nodes {
		for _, l := range [][]uint64{x.Nodes[i].C.N.M, x.Nodes[i].C.D} {
			for j := range l {
				l[j] += uint64(i) << 32
			}
		}
	}
	for i, n := range x.Nodes {
		for _, l := range [][]uint64{n.C.N.M, n.C.D} {
			if len(l) > 0 && l[0]>>32 != uint64(i) {
				t.Errorf("a number of step %d is that of another one", i)
			}
		}
	}
}

// R4: calls side by side, of the same tree and data, do not know of each other.
func TestSideBySide(t *testing.T) {
	g := rand.New(rand.NewPCG(22, 8))
	p, data := newMaker(g, 0).prog()
	for {
		if x, f := elab.Build(p, data, mostNodes); f == (api.Fault{}) && len(x.Nodes) > 60 {
			break
		}
		p, data = newMaker(g, 0).prog()
	}
	want, _ := elab.Build(p, data, mostNodes)
	_, fault := elab.Build(p, data, 30)
	var wait sync.WaitGroup
	for range 8 {
		wait.Go(func() {
			for range 40 {
				if x, f := elab.Build(p, data, mostNodes); f != (api.Fault{}) || !tape.Same(x, want) {
					t.Errorf("%s, %s, want %s", shownFault(f), shownTape(x), shownTape(want))
				}
				if x, f := elab.Build(p, data, 30); f != fault || !isNone(x) {
					t.Errorf("%s, want %s", shownFault(f), shownFault(fault))
				}
			}
		})
	}
	wait.Wait()
}

// R1: trees that are deeper than calls within calls could go in so small a stack.
func TestDeep(t *testing.T) {
	const deep = 1 << 17
	defer debug.SetMaxStack(debug.SetMaxStack(1 << 22))
	prog := func(s api.Stmt) api.Prog {
		var p api.Prog
		p.Blocks[api.BkModel] = api.Block{Is: true, Stmts: []api.Stmt{s}}
		return p
	}
	adds := func(e api.Expr) api.Prog { return prog(api.Stmt{Op: api.StAdd, At: 7, Kids: []api.Expr{e}}) }
	is := func(p api.Prog, want api.Fault, steps int) {
		t.Helper()
		if x, f := elab.Build(p, nil, mostNodes); f != want || len(x.Nodes) != steps {
			t.Errorf("%s, want %s; %d steps", shownFault(f), shownFault(want), len(x.Nodes))
		}
	}
	whole, left, right, half := num("1"), num("1"), num("1"), num("0.5")
	for range deep {
		whole = of(api.ExNeg, whole)
		left = of(api.ExAdd, left, num("2"))
		right = of(api.ExSub, num("2"), right)
		half = of(api.ExNeg, half)
	}
	is(adds(whole), api.Fault{}, 3)
	is(adds(left), api.Fault{}, 3)
	is(adds(right), api.Fault{}, 3)
	is(adds(half), api.Fault{E: api.ErrBudget}, 0)
	in := api.Stmt{Op: api.StAdd, Kids: []api.Expr{num("3")}}
	for i := range 3 * (mostRuns / 3) {
		switch one := num("1"); i % 3 {
		case 0:
			in = api.Stmt{Op: api.StBlock, At: i, Body: []api.Stmt{in}}
		case 1:
			in = api.Stmt{Op: api.StIf, At: i, Kids: []api.Expr{of(api.ExEq, one, one)}, Body: []api.Stmt{in}}
		default:
			in = api.Stmt{Op: api.StIf, At: i, Kids: []api.Expr{of(api.ExNe, one, one)}, Else: []api.Stmt{in}}
		}
	}
	is(prog(in), api.Fault{}, 3)
	is(prog(api.Stmt{Op: api.StBlock, Body: []api.Stmt{in}}), api.Fault{E: api.ErrBudget}, 0)
}

// R1: rows of which nothing is set, or that are set to each other, need no memory of their own, however many they are.
func TestManyRows(t *testing.T) {
	const many = 50000
	p := parsed(t, "data { vector[1000] y; } transformed data { vector[1000] a = y; } model { target += size(v7) + v9[1000]; }")
	b := &p.Blocks[api.BkMade]
	for i := range many {
		d := api.Decl{Type: api.TyVec, Name: "v" + strconv.Itoa(i), Size: []api.Expr{num("1000")}}
		if i%2 == 1 {
			d.Init = []api.Expr{name("a")}
		}
		b.Decls = append(b.Decls, d)
	}
	item := api.Datum{Name: "y", List: true}
	for i := range int64(mostSize) {
		item.Nums = append(item.Nums, ratio(i+1, 2))
	}
	var before, after runtime.MemStats
	runtime.ReadMemStats(&before)
	x, f := elab.Build(p, []api.Datum{item}, mostNodes)
	runtime.ReadMemStats(&after)
	if f != (api.Fault{}) || len(x.Nodes) != 1+mostSize+3 {
		t.Errorf("%s, %d steps", shownFault(f), len(x.Nodes))
	}
	if n := after.TotalAlloc - before.TotalAlloc; n > 1<<28 {
		t.Errorf("%d bytes were used", n)
	}
}
