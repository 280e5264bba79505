package tape_test

import (
	"math/rand/v2"
	"slices"
	"testing"

	"stepstone/api"
	"stepstone/tape"
)

// lives checks which steps are live, by a text of their indices' signs: + or -.
func lives(t *testing.T, x api.Tape, want string) {
	t.Helper()
	check(t, x)
	var got []byte
	for _, is := range tape.Live(x) {
		if is {
			got = append(got, '+')
		} else {
			got = append(got, '-')
		}
	}
	if string(got) != want {
		t.Errorf("of %s live are %s, want %s", told(x), got, want)
	}
}

// P17.1: by hand.
func TestLive(t *testing.T) {
	x := ordinary()
	lives(t, x, "+++++++++++++++--")
	for out, want := range []string{
		"+----------------", "-+---------------", "--+--------------", "---+-------------",
		"++--+------------", "+++-++-----------", "+++-+++----------", "++++++++---------",
		"+++++++++--------", "++++++++++-------", "+++++++++++------", "---+-------+-----",
		"---+-------++----", "++++++++++++-+---", "+++++++++++++++--", "++++++++++++++++-", "----------------+",
	} {
		x.Out = out
		lives(t, x, want)
	}
	lives(t, api.Tape{}, "")
	lives(t, tapeOf(0, num(1, 1)), "+")
	lives(t, tapeOf(1, num(1, 1), num(2, 1), par(0)), "--+")
	lives(t, tapeOf(3, num(1, 1), num(2, 1), par(2)), "--+")
	lives(t, tapeOf(2, num(1, 1), num(2, 1), num(3, 1), par(1)), "---+")
	x.Out = 4
	x.Tells = []api.Tell{tell("not live", 9)}
	lives(t, x, "++--+------------")
}

// P17.1: steps of each Op keep the steps alive that they have, and no other.
func TestLiveByOp(t *testing.T) {
	for _, op := range opsOfTwo() {
		x := tapeOf(0, num(1, 1), num(2, 1), num(3, 1), num(4, 1), api.Node{Op: op})
		for a := range 4 {
			for b := range 4 {
				want := []byte("----+")
				want[a], want[b] = '+', '+'
				x.Nodes[4].A, x.Nodes[4].B = a, b
				lives(t, x, string(want))
			}
		}
	}
	for _, op := range opsOfOne() {
		for a := range 4 {
			want := []byte("----+")
			want[a] = '+'
			lives(t, tapeOf(0, num(1, 1), num(2, 1), num(3, 1), num(4, 1), one(op, a)), string(want))
		}
	}
}

// P17.1: long chains, as long as a tape may be: all of them, and none but Out.
func TestLiveLong(t *testing.T) {
	x := tapeOf(0, chain(mostNodes)...)
	count := func(n int) {
		t.Helper()
		live := tape.Live(x)
		for i, is := range live {
			if is != (i < n) {
				t.Fatalf("live[%d] is %v, of %d", i, is, n)
			}
		}
		if len(live) != mostNodes {
			t.Errorf("%d of %d", len(live), mostNodes)
		}
		check(t, x)
	}
	count(mostNodes)
	x.Out = mostNodes / 2
	count(mostNodes/2 + 1)
	x.Out = 0
	count(1)
	for i := 1; i < mostNodes; i++ {
		x.Nodes[i] = two(api.NdAdd, i-1, max(i-2, 0))
	}
	x.Out = mostNodes - 1
	count(mostNodes)
	for i := range mostNodes {
		x.Nodes[i] = num(int64(i), 1)
	}
	check(t, x)
	if live := tape.Live(x); slices.Index(live, true) != mostNodes-1 {
		t.Error("more than Out is live")
	}
}

// P17.1: random tapes, each with each Out.
func TestLiveAny(t *testing.T) {
	g := rand.New(rand.NewPCG(17, 1))
	for range 3000 {
		x := anyTape(g, 25)
		if tape.Check(x) != api.OK {
			t.Fatalf("%s is not valid", told(x))
		}
		for i := range x.Nodes {
			x.Out = i
			check(t, x)
		}
	}
}
