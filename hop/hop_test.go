package hop_test

import (
	"math/big"
	"slices"
	"strconv"
	"strings"
	"testing"

	"stepstone/api"
)

// flat is of the same height everywhere, so that nothing is weighed, and a push is kept.
func flat(pars int) api.Tape { return tapeOf(pars, number(3, 1)) }

// light is a way by which each integer increases by its push, which is a bell of 1/4, at each step.
func light(pars, grid, count int) api.Frog {
	quarter := fracOf(inverse(pow2(2 + 2*grid)))
	return api.Frog{Grid: grid, Count: count, Step: quarter, Mass: slices.Repeat([]api.Frac{quarter}, pars)}
}

// pushRow are bits by which a bell of 1/4 is n: trues of Decay 1, and a false one; the sign; the whole numbers up to its exponent, each by a Decay of 1, and that of the 1/8 that is left.
func pushRow(n int) string {
	sign, m := "0", n
	if n < 0 {
		sign, m = "1", -n
	}
	return strings.Repeat("01", m) + "11" + sign + strings.Repeat("01", 2*m*m-m) + "1"
}

// unitRow are bits by which a bell of 1 is n, which is from -1 to 2: first comes a number below 2.
func unitRow(n int) string {
	switch n {
	case 0:
		return "0" + "11" + "0" + "1"
	case 1:
		return "1" + "11" + "11" + "0" + "1"
	case -1:
		return "1" + "11" + "11" + "1" + "1"
	default:
		return "0" + "01" + "11" + "0" + "01" + "1"
	}
}

// P27.2: the chapter's transition.
func TestExample(t *testing.T) {
	hopIs(t, "no bits", "", plain(), way(1), 1, ints(0), dryAt(0))
}

// P27.2: a push is a bell of the Mass times 4^Grid, by which the place moves.
func TestPush(t *testing.T) {
	for n := -3; n <= 3; n++ {
		row := pushRow(n)
		for _, from := range []int64{0, 1, -1, 5} {
			hopIs(t, "by a push", row, flat(1), light(1, 0, 1), 9, ints(from), taken(len(row), from+int64(n)))
		}
		hopIs(t, "0 with a sign is drawn anew", "111"+row, flat(1), light(1, 0, 1), 9, ints(0), taken(3+len(row), int64(n)))
		hopIs(t, "a bell is drawn anew", "110"+"0001"+row, flat(1), light(1, 0, 1), 9, ints(0), taken(7+len(row), int64(n)))
	}
	f := way(1)
	for n := -1; n <= 2; n++ {
		row := unitRow(n)
		hopIs(t, "a bell of 1", row, flat(1), f, 9, ints(0), taken(len(row), int64(n)))
	}
}

// P27.2: on each grid.
func TestPushGrid(t *testing.T) {
	for grid := range mostGrid + 1 {
		for _, n := range []int{-2, 0, 1} {
			row := pushRow(n)
			hopIs(t, "on a grid", row, flat(1), light(1, grid, 1), 3, ints(1), taken(len(row), 1+int64(n)))
		}
		f := gridded(1, grid)
		f.Mass[0] = fracOf(inverse(pow2(2 * grid)))
		f.Step = f.Mass[0]
		row := unitRow(2)
		hopIs(t, "a bell of 1", row, flat(1), f, 3, ints(-1), taken(len(row), 1))
	}
}

// P27.2: a push for each parameter, in order, each by its own Mass.
func TestPushOfSeveral(t *testing.T) {
	f := light(3, 0, 1)
	for _, r := range [][3]int{{1, 0, 0}, {0, 1, 0}, {0, 0, 1}, {-1, 2, 1}, {2, -1, -2}, {0, 0, 0}} {
		row := pushRow(r[0]) + pushRow(r[1]) + pushRow(r[2])
		hopIs(t, "of one Mass", row, flat(3), f, 5, ints(1, -1, 2), taken(len(row), 1+int64(r[0]), int64(r[1])-1, 2+int64(r[2])))
	}
	// By a step of 1 it's four times the push of the first one, once that of the second one, nine times that of the third one.
	f.Step, f.Mass = frac(1, 1), []api.Frac{frac(1, 4), frac(1, 1), frac(1, 9)}
	for _, r := range []struct {
		row  string
		want answer
	}{
		{pushRow(1) + unitRow(1) + "1101", taken(8+7+4, 4, 1, 0)},
		{pushRow(0) + unitRow(-1) + "0111001010111", taken(4+7+13, 0, -1, 9)},
		{pushRow(-1) + unitRow(2) + "0111101010111", taken(8+9+13, -4, 2, -9)},
		{pushRow(2) + unitRow(0) + "1101", taken(20+5+4, 8, 0, 0)},
	} {
		hopIs(t, "of several Mass", r.row, flat(3), f, 9, ints(0, 0, 0), r.want)
	}
	slices.Reverse(f.Mass)
	hopIs(t, "in the other order", "0111001010111"+unitRow(2)+pushRow(-1), flat(3), f, 9, ints(0, 0, 0), taken(13+9+8, 9, 2, -4))
	many := light(mostPars, 0, 1)
	q, row := make([]int64, mostPars), ""
	for i := range q {
		q[i] = int64(i%3 - 1)
		row += pushRow(int(q[i]))
	}
	x, s := flat(mostPars), row+"1"
	if got := hoppedBy(t, s, x, many, 1, make([]api.Int, mostPars), reached{}); got != taken(len(row), q...) {
		t.Errorf("%d parameters: %+v", mostPars, got)
	}
	if got := hoppedBy(t, row[:len(row)-1], x, many, 1, make([]api.Int, mostPars), reached{}); got != dryAt(len(row)-1) {
		t.Errorf("%d parameters: %+v", mostPars, got)
	}
}

// numberRow are the bits of a number below count.
func numberRow(n, count int) string {
	width := big.NewInt(int64(count - 1)).BitLen()
	row := strconv.FormatInt(int64(n), 2)
	if n == 0 {
		row = ""
	}
	return strings.Repeat("0", width-len(row)) + row
}

// P27.2: then as many steps as one more than a number below Count says.
func TestSteps(t *testing.T) {
	for count := 1; count <= mostCount; count++ {
		f := light(1, 0, count)
		for n := range count {
			row := pushRow(1) + numberRow(n, count)
			if got := hoppedBy(t, row, flat(1), f, 99, ints(-40), reached{}); got != taken(len(row), int64(n)-39) {
				t.Errorf("%d of %d steps: %+v", n+1, count, got)
			}
		}
		again := ""
		for n := count; n < 1<<len(numberRow(0, count)) && n < count+4; n++ {
			again += numberRow(n, count)
		}
		row := pushRow(-1) + again + numberRow(count-1, count)
		hopIs(t, "a number that is not below", row, flat(1), f, 99, ints(0), taken(len(row), int64(-count)))
	}
	// By hand: none for 1, two bits for 3, three for 5.
	hopIs(t, "of 1", pushRow(1), flat(1), light(1, 0, 1), 9, ints(0), taken(8, 1))
	hopIs(t, "of 3", pushRow(1)+"11 11 10", flat(1), light(1, 0, 3), 9, ints(0), taken(14, 3))
	hopIs(t, "of 5", pushRow(1)+"101 111 100", flat(1), light(1, 0, 5), 9, ints(0), taken(17, 5))
	hopIs(t, "of 64", pushRow(1)+"111111", flat(1), light(1, 0, 64), 64, ints(0), taken(14, 64))
	hopIs(t, "of 2", pushRow(-1)+"1", flat(1), light(1, 0, 2), 9, ints(0), taken(9, -2))
}

// P27.2: where there is no parameter, there is no push, and the place is without an integer.
func TestNoParameter(t *testing.T) {
	none := tapeOf(0, number(0, 1), one(api.NdLog, 0))
	for _, box := range []int{1, mostBox} {
		for _, grid := range []int{0, mostGrid} {
			f := gridded(0, grid)
			hopIs(t, "one step", "", flat(0), f, box, nil, taken(0))
			hopIs(t, "one step", "", flat(0), f, box, []api.Int{}, taken(0))
			hopIs(t, "no value", "", none, f, box, nil, left(0))
			f.Count = 4
			hopIs(t, "four steps", "01", flat(0), f, box, nil, taken(2))
			hopIs(t, "no value", "11", none, f, box, nil, left(2))
		}
	}
}

// P27.2: a place that is just in the box, and one that is just outside: then no further bit is read, and it is the previous place.
func TestOutside(t *testing.T) {
	for _, r := range []struct {
		from int64
		push int
		want answer
	}{
		{4, 1, taken(8, 5)}, {5, 1, outside(8, 5)}, {5, 2, outside(20, 5)}, {3, 2, taken(20, 5)}, {4, 2, outside(20, 4)},
		{-4, -1, taken(8, -5)}, {-5, -1, outside(8, -5)}, {-5, 1, taken(8, -4)}, {-4, -2, outside(20, -4)}, {5, -1, taken(8, 4)}, {5, 0, taken(4, 5)}, {-5, 0, taken(4, -5)},
	} {
		hopIs(t, "at the edge", pushRow(r.push), flat(1), light(1, 0, 1), 5, ints(r.from), r.want)
	}
	hopIs(t, "by two steps", pushRow(1)+"1", flat(1), light(1, 0, 2), 5, ints(4), outside(9, 4))
	hopIs(t, "by one step", pushRow(1)+"0", flat(1), light(1, 0, 2), 5, ints(4), taken(9, 5))
	// The box is of numbers, not of the grid's integers.
	hopIs(t, "on a grid", pushRow(1), flat(1), light(1, 3, 1), 5, ints(39), taken(8, 40))
	hopIs(t, "on a grid", pushRow(1), flat(1), light(1, 3, 1), 5, ints(40), outside(8, 40))
	hopIs(t, "on a grid", pushRow(-1), flat(1), light(1, 3, 1), 5, ints(-40), outside(8, -40))
	// One of several is enough.
	f := light(3, 0, 1)
	row := pushRow(1) + pushRow(-1) + pushRow(1)
	for _, q := range [][]int64{{1, 0, 0}, {0, -1, 0}, {0, 0, 1}, {1, -1, 1}} {
		hopIs(t, "one of several", row, flat(3), f, 1, ints(q...), outside(24, q...))
	}
	hopIs(t, "none of several", row, flat(3), f, 1, ints(0, 0, 0), taken(24, 1, -1, 1))
	// A place that only was outside between two steps is no matter: a kick of -4, by the slope at 5.
	steep := tapeOf(1, par(0), numberOf(rat(-16, 1)), two(api.NdMul, 0, 1))
	hopIs(t, "there and back", pushRow(2)+"0"+"0000", steep, light(1, 0, 2), 5, ints(5), taken(21, 5))
	// Outside nothing is weighed, be it up, down, or where there is no value, at whichever of both.
	up, wall := tapeOf(1, par(0), number(9, 1), two(api.NdMul, 0, 1)), tapeOf(1, par(0), one(api.NdLog, 0))
	for _, x := range []api.Tape{plain(), up, wall, threefold()} {
		f := light(1, 2, 1)
		f.Step = frac(64, 1)
		hopIs(t, "not weighed", pushRow(-2), x, f, 1, ints(4), outside(20, 4))
		hopIs(t, "not weighed", pushRow(-2), x, f, 1, ints(-4), outside(20, -4))
	}
}

// threefold is the parameter, but at 0 it's not known at any level whether it has a value, which it does not have below.
func threefold() api.Tape {
	return tapeOf(1, par(0), number(1, 3), two(api.NdSub, 1, 1), two(api.NdAdd, 0, 2), one(api.NdNeed, 3), two(api.NdAdd, 0, 4))
}

// P27.2: a place in the box is weighed: it is the new one if it is taken, otherwise the previous one.
func TestVerdict(t *testing.T) {
	f := light(1, 0, 1)
	// A kick is by an eighth, which is nothing. One down is a gain of -1, whose power is 0.0101 1110..; two down are -2, 0.0010 0010..
	for _, r := range []struct {
		push int
		row  string
		want answer
	}{
		{1, "", taken(8, 1)}, {2, "", taken(20, 2)}, {0, "", taken(4, 0)},
		{-1, "1", left(9, 0)}, {-1, "00", taken(10, -1)}, {-1, "011", left(11, 0)}, {-1, "0100", taken(12, -1)}, {-1, "01010", taken(13, -1)},
		{-2, "1", left(21, 0)}, {-2, "01", left(22, 0)}, {-2, "000", taken(23, -2)}, {-2, "0011", left(24, 0)}, {-2, "0010000", taken(27, -2)}, {-2, "00100011", left(28, 0)},
	} {
		hopIs(t, "weighed", pushRow(r.push)+r.row, plain(), f, 3, ints(0), r.want)
	}
	wall := tapeOf(1, par(0), one(api.NdLog, 0))
	hopIs(t, "to where there is no value", pushRow(-1), wall, f, 3, ints(1), left(8, 1))
	hopIs(t, "from where there is no value", pushRow(1), wall, f, 3, ints(0), left(8, 0))
	hopIs(t, "where there is none", pushRow(0), wall, f, 3, ints(-3), left(4, -3))
	hopIs(t, "from 1 to 2", pushRow(1), wall, f, 3, ints(1), taken(8, 2))
	hopIs(t, "from 2 to 1: by half", pushRow(-1)+"00", wall, f, 3, ints(2), taken(10, 1))
	hopIs(t, "from 2 to 1: by half", pushRow(-1)+"11", wall, f, 3, ints(2), left(10, 2))
	f.Count = 2
	hopIs(t, "by two steps", pushRow(-1)+"1"+"0011", plain(), f, 3, ints(0), left(13, 0))
	hopIs(t, "by one step", pushRow(-1)+"0"+"00", plain(), f, 3, ints(0), taken(11, -1))
}

// P27.2: what the push weighs before and after the move counts, too.
func TestVerdictByPush(t *testing.T) {
	f := light(1, 0, 1)
	down := tapeOf(1, par(0), two(api.NdMul, 0, 0), number(-4, 1), two(api.NdMul, 1, 2))
	// From 1 by 2: a kick of -1, to 2, a kick of -2: the push 1. The gain is -16 + 4 + 8 - 2 = -6, whose power is 0.0000 0000 1010 0010..
	row := pushRow(2)
	for _, r := range []struct {
		row  string
		want answer
	}{
		{"1", left(21, 1)}, {"00000001", left(28, 1)}, {"000000000", taken(29, 2)}, {"0000000011", left(30, 1)}, {"0000000010 0", taken(31, 2)},
	} {
		hopIs(t, "less by the push's weight", row+r.row, down, f, 3, ints(1), r.want)
	}
	// Up a hill of x squared: from 1, without a push, a kick of 1, by 4 to 5, a kick of 5: the push -6. The gain is 24 - 72.
	up := tapeOf(1, par(0), two(api.NdMul, 0, 0))
	f.Step = frac(1, 1)
	hopIs(t, "the push weighs more than the target", pushRow(0)+"1", up, f, 5, ints(1), left(5, 1))
	hopIs(t, "the push weighs more than the target", pushRow(0)+"0000000001", up, f, 5, ints(1), left(14, 1))
	hopIs(t, "outside", pushRow(0), up, f, 4, ints(1), outside(4, 1))
	// On a line the push weighs just as much less as the target is higher.
	for _, n := range []int64{8, -8} {
		line := tapeOf(1, par(0), number(n, 1), two(api.NdMul, 0, 1))
		for push := -2; push <= 2; push++ {
			hopIs(t, "on a line", pushRow(push), line, light(1, 0, 1), 9, ints(1), taken(len(pushRow(push)), 1+int64(push)+n/8))
		}
	}
	// The Level is that of the slopes: at level 0 it is only known of the parameter that it is from 0 to 4, so its square's slope counts as 4, and a push of 0 leads from 1 to 2, and gets 2; at others that slope is 2, of which a kick makes nothing.
	rough := tapeOf(1, par(0), numberOf(whole(pow2(33))), two(api.NdAdd, 0, 1), two(api.NdSub, 2, 1), two(api.NdMul, 3, 3))
	f = light(1, 0, 1)
	hopIs(t, "level 0", pushRow(0)+"1", rough, f, 9, ints(1), left(5, 1))
	hopIs(t, "level 0", pushRow(0)+"00000000", rough, f, 9, ints(1), taken(12, 2))
	for _, level := range []int{1, 2, mostLevel} {
		f.Level = level
		hopIs(t, "other levels", pushRow(0), rough, f, 9, ints(1), taken(4, 1))
	}
}

// R7: places and numbers count as they are, however they are written; what is told is normal, also where it's the previous place.
func TestWritten(t *testing.T) {
	f := light(2, 0, 1)
	for _, n := range []int{0, 1, 5, 70, 2049} {
		q := []api.Int{topped(ints(1)[0], n), topped(ints(0)[0], n)}
		hopIs(t, "taken", pushRow(1)+pushRow(0), flat(2), f, 2, q, taken(12, 2, 0))
		hopIs(t, "outside", pushRow(2)+pushRow(0), flat(2), f, 2, q, outside(24, 1, 0))
		hopIs(t, "left", pushRow(-1)+pushRow(0)+"1", tapeOf(2, par(0)), f, 2, q, left(13, 1, 0))
	}
	for _, k := range []*big.Int{big.NewInt(6), near(64, 1), near(mostBits-2, -1)} {
		f.Step, f.Mass[1] = timesOf(rat(1, 4), k), timesOf(rat(1, 4), k)
		f.Mass[1].D = append(f.Mass[1].D, 0, 0)
		hopIs(t, "not in lowest terms", pushRow(1)+pushRow(-1), flat(2), f, 2, ints(0, 0), taken(16, 1, -1))
	}
	// So long that four times it would be too long, were it not for its denominator, which is as long.
	for _, k := range []*big.Int{big.NewInt(1), near(mostBits, -1), near(mostBits-1, 1)} {
		f := gridded(1, 1)
		f.Mass[0] = timesOf(rat(1, 1), k)
		hopIs(t, "a long way of writing 1", "00 11 0 1", flat(1), f, 9, ints(1), taken(6, 1))
		hopIs(t, "a long way of writing 1", "01 1 11 0 1", flat(1), f, 9, ints(1), taken(7, 2))
	}
}
