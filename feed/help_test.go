package feed_test

import (
	"encoding/binary"
	"math/big"
	"math/rand/v2"
	"slices"
	"strconv"
	"strings"
	"testing"

	"stepstone/api"
	"stepstone/feed"
)

// The chapters' limits.
const (
	mostBytes   = 20000
	mostTokens  = 6000
	mostNumeral = 400
	mostItems   = 1000
	mostNumbers = 1000
	maxBits     = 64 * 2048
)

// The words of layer 12 that are no names.
func taken() []string {
	return strings.Fields("data transformed parameters model generated quantities int real vector array for in if else target lower upper")
}

// signs is layer 11's list.
func signs() []string {
	return strings.Fields("== != <= >= += { } [ ] ( ) < > = + - * / ~ , ; :")
}

func bigOfNat(m api.Nat) *big.Int {
	bytes := make([]byte, 0, 8*len(m))
	for _, x := range slices.Backward(m) {
		bytes = binary.BigEndian.AppendUint64(bytes, x)
	}
	return new(big.Int).SetBytes(bytes)
}

func bigOf(a api.Int) *big.Int {
	n := bigOfNat(a.M)
	if a.Neg {
		n.Neg(n)
	}
	return n
}

func natOf(n *big.Int) api.Nat {
	m := make(api.Nat, (n.BitLen()+63)/64)
	bytes := n.FillBytes(make([]byte, 8*len(m)))
	for i := range m {
		m[len(m)-1-i] = binary.BigEndian.Uint64(bytes[8*i:])
	}
	return m
}

// fracOf is the number as it is written, not as it is normal.
func fracOf(n, d *big.Int) api.Frac {
	return api.Frac{N: api.Int{Neg: n.Sign() < 0, M: natOf(n)}, D: natOf(d)}
}

func ratio(n, d int64) api.Frac { return fracOf(big.NewInt(n), big.NewInt(d)) }

func whole(n int64) api.Frac { return ratio(n, 1) }

func pow2(n int) *big.Int { return new(big.Int).Lsh(big.NewInt(1), uint(n)) }

// longest is the greatest integer that is not too long.
func longest() *big.Int { return new(big.Int).Sub(pow2(maxBits), big.NewInt(1)) }

// isLean tells whether the last limb is not 0.
func isLean(m api.Nat) bool { return len(m) == 0 || m[len(m)-1] != 0 }

// toldNum is a number as a text, whose end says so if it is not normal.
func toldNum(a api.Frac) string {
	n, d := bigOf(a.N), bigOfNat(a.D)
	out := n.String()
	if d.Cmp(big.NewInt(1)) != 0 {
		out += "/" + d.String()
	}
	common := new(big.Int).GCD(nil, nil, new(big.Int).Abs(n), d)
	if common.Cmp(big.NewInt(1)) != 0 || !isLean(a.N.M) || !isLean(a.D) || n.Sign() == 0 && a.N.Neg {
		out += " as it is not normal"
	}
	return out
}

func toldNums(l []api.Frac) string {
	var out []string
	for _, a := range l {
		out = append(out, toldNum(a))
	}
	return strings.Join(out, " ")
}

// toldItem is an item as a line: its name, what is behind an @ is its place, its numbers.
func toldItem(d api.Datum) string {
	out := d.Name + "@" + strconv.Itoa(d.At)
	if d.Whole {
		out += " whole"
	}
	if d.List {
		return out + " [" + toldNums(d.Nums) + "]"
	}
	return out + " " + toldNums(d.Nums)
}

func told(l []api.Datum) string {
	var out []string
	for _, d := range l {
		out = append(out, toldItem(d))
	}
	return strings.Join(out, "; ")
}

func shown(s string) string {
	if len(s) > 600 {
		return strconv.Quote(s[:300]) + " .. " + strconv.Quote(s[len(s)-300:]) + " of " + strconv.Itoa(len(s)) + " bytes"
	}
	return strconv.Quote(s)
}

func shownFault(f api.Fault) string {
	return "error " + strconv.Itoa(int(f.E)) + " at " + strconv.Itoa(f.At)
}

// reads checks what a text is read as.
func reads(t *testing.T, s, want string) {
	t.Helper()
	l, f := feed.Read(s)
	if f != (api.Fault{}) || told(l) != want {
		t.Errorf("Read(%s) = %s, %s, want %s", shown(s), shown(told(l)), shownFault(f), shown(want))
	}
}

// fails checks that a text has that error where a ^ is in it, and no items.
func fails(t *testing.T, e api.Errno, s string) {
	t.Helper()
	before, behind, is := strings.Cut(s, "^")
	if !is {
		t.Fatalf("%s has no mark", shown(s))
	}
	l, f := feed.Read(before + behind)
	if want := (api.Fault{E: e, At: len(before)}); f != want || len(l) != 0 {
		t.Errorf("Read(%s) = %d items, %s, want %s", shown(before+behind), len(l), shownFault(f), shownFault(want))
	}
}

// refuses checks that texts are no data, from where a ^ is in them on; behind items, too.
func refuses(t *testing.T, texts ...string) {
	t.Helper()
	for _, s := range texts {
		fails(t, api.ErrSyntax, s)
		fails(t, api.ErrSyntax, "zz = 1; zy = [1, -2.5]; // z\n"+s)
		fails(t, api.ErrSyntax, "zz=[];"+s)
	}
}

// writes checks what items are written as, and that nothing but their names and numbers matters to that.
func writes(t *testing.T, want string, l ...api.Datum) {
	t.Helper()
	for i := range 4 {
		some := slices.Clone(l)
		for j := range some {
			some[j].At, some[j].Whole = []int{0, -1, j, 1 << 40}[i], (i+j)%2 == 0
		}
		if s, e := feed.Write(some); e != api.OK || s != want {
			t.Errorf("Write(%s) = %s, error %d, want %s", shown(told(some)), shown(s), e, shown(want))
		}
	}
}

// refusesToWrite checks that there is that error, and nothing else.
func refusesToWrite(t *testing.T, want api.Errno, what string, l ...api.Datum) {
	t.Helper()
	if s, e := feed.Write(l); e != want || s != "" {
		t.Errorf("Write of %s = %s, error %d, want error %d", what, shown(s), e, want)
	}
}

func one(name string, x api.Frac) api.Datum { return api.Datum{Name: name, Nums: []api.Frac{x}} }

func list(name string, l ...api.Frac) api.Datum {
	return api.Datum{Name: name, List: true, Nums: l}
}

// oneOf is any of some.
func oneOf[T any](g *rand.Rand, l ...T) T { return l[g.IntN(len(l))] }
