package feed_test

import (
	"math/big"
	"reflect"
	"strconv"
	"strings"
	"testing"

	"stepstone/api"
	"stepstone/feed"
)

// finds checks which item is found.
func finds(t *testing.T, l []api.Datum, name, want string) {
	t.Helper()
	d, is := feed.Find(l, name)
	if !is || toldItem(d) != want {
		t.Errorf("Find(%s, %s) = %s, %v, want %s", shown(told(l)), shown(name), shown(toldItem(d)), is, shown(want))
	}
}

// lacks checks that no item is found.
func lacks(t *testing.T, l []api.Datum, name string) {
	t.Helper()
	if d, is := feed.Find(l, name); is || !reflect.ValueOf(d).IsZero() {
		t.Errorf("Find(%s, %s) = %s, %v, want none", shown(told(l)), shown(name), shown(toldItem(d)), is)
	}
}

// P14.2: names that occur not at all, and once.
func TestFind(t *testing.T) {
	l, f := feed.Read("n = 3; y = [1.5, -2]; none = []; nn = 4; N = -0.5;")
	if f != (api.Fault{}) {
		t.Fatal(shownFault(f))
	}
	finds(t, l, "n", "n@0 whole 3")
	finds(t, l, "y", "y@7 [3/2 -2]")
	finds(t, l, "none", "none@22 whole []")
	finds(t, l, "nn", "nn@33 whole 4")
	finds(t, l, "N", "N@41 -1/2")
	finds(t, l[1:], "N", "N@41 -1/2")
	finds(t, l[:1], "n", "n@0 whole 3")
	for _, name := range []string{"", "m", "Y", "nnn", "non", "none ", " n", "n\x00", "data", "[", "=", "n = 3"} {
		lacks(t, l, name)
	}
	lacks(t, l[1:], "n")
	lacks(t, l[:1], "y")
}

// P14.2: rows without an item.
func TestFindInNone(t *testing.T) {
	for _, l := range [][]api.Datum{nil, {}, make([]api.Datum, 0, 5), []api.Datum{one("n", whole(1))}[:0]} {
		for _, name := range []string{"", "n", "y"} {
			lacks(t, l, name)
		}
	}
}

// P14.2: of several items with a name the first one, wherever they are.
func TestFindFirst(t *testing.T) {
	for n := 1; n < 6; n++ {
		for first := range n {
			for second := first; second < n; second++ {
				var l []api.Datum
				for i := range n {
					d := one("x"+strconv.Itoa(i), whole(int64(i)))
					if i == first || i == second {
						d.Name = "n"
					}
					d.At, d.Whole = 10*i, i%2 == 0
					l = append(l, d)
				}
				is := ""
				if first%2 == 0 {
					is = " whole"
				}
				finds(t, l, "n", "n@"+strconv.Itoa(10*first)+is+" "+strconv.Itoa(first))
				lacks(t, l, "m")
			}
		}
	}
}

// P14.2: items that no text has: any name, place and numbers; a list where there is one number alone, or the other way round.
func TestFindAny(t *testing.T) {
	l := []api.Datum{
		{Name: "int", At: -5, Whole: true, Nums: []api.Frac{ratio(1, 2)}},
		{Name: "", At: 1 << 40},
		{Name: "_ =;\n\xff", List: true},
		{Name: "two", Nums: []api.Frac{whole(1), whole(-2)}},
		{Name: strings.Repeat("x", 30000), List: true, Whole: true, Nums: []api.Frac{whole(0)}},
	}
	finds(t, l, "int", "int@-5 whole 1/2")
	finds(t, l, "", "@1099511627776 ")
	finds(t, l, "_ =;\n\xff", "_ =;\n\xff@0 []")
	finds(t, l, "two", "two@0 1 -2")
	finds(t, l, l[4].Name, l[4].Name+"@0 whole [0]")
	lacks(t, l, l[4].Name[1:])
	lacks(t, l, "n")
}

// P14.2, R7: valid numbers are returned normal, however they are written.
func TestFindNormal(t *testing.T) {
	l := []api.Datum{list("n", ratio(4, 2), ratio(-2, 4), ratio(0, 7), api.Frac{N: api.Int{Neg: true}, D: api.Nat{1}}, api.Frac{N: api.Int{M: api.Nat{6, 0, 0}}, D: api.Nat{3, 0}}, fracOf(longest(), longest()))}
	finds(t, l, "n", "n@0 [2 -1/2 0 0 2 1]")
}

// notValid are numbers without a divisor, and such as are too long.
func notValid() []api.Frac {
	return []api.Frac{
		{}, {N: api.Int{M: api.Nat{1}}}, {N: api.Int{Neg: true, M: api.Nat{4}}, D: api.Nat{0, 0}}, {N: api.Int{M: api.Nat{0}}, D: make(api.Nat, 3000)},
		fracOf(pow2(maxBits), big.NewInt(1)), fracOf(new(big.Int).Neg(pow2(maxBits)), big.NewInt(1)), fracOf(pow2(maxBits), pow2(maxBits)), fracOf(big.NewInt(0), pow2(maxBits)), fracOf(big.NewInt(1), pow2(maxBits)),
	}
}

// P14.2: items with numbers that are not valid are found all the same, with as many numbers, and those what they were.
func TestFindNotValid(t *testing.T) {
	for _, x := range notValid() {
		l := []api.Datum{one("m", whole(1)), list("n", whole(1), x, ratio(2, 4))}
		d, is := feed.Find(l, "n")
		if !is || len(d.Nums) != 3 || toldNum(d.Nums[0]) != "1" || toldNum(d.Nums[2]) != "1/2" {
			t.Fatalf("Find of an item with %s: %s", shown(toldNum(x)), shown(toldItem(d)))
		}
		got := d.Nums[1]
		if bigOf(got.N).Cmp(bigOf(x.N)) != 0 || bigOfNat(got.D).Cmp(bigOfNat(x.D)) != 0 || got.N.Neg != x.N.Neg {
			t.Errorf("Find of an item with %s: it is %s", shown(toldNum(x)), shown(toldNum(got)))
		}
	}
}
