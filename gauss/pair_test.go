package gauss_test

import (
	"math/big"
	"strconv"
	"testing"

	"stepstone/api"
	"stepstone/bits"
	"stepstone/gauss"
)

// intOf is the integer that was told: nil for a zero one beside an error.
func intOf(t *testing.T, a api.Int, e api.Errno) *big.Int {
	t.Helper()
	if !isNormal(a.M) || a.Neg && len(a.M) == 0 {
		t.Errorf("%v is not normal", a)
	}
	if e != api.OK {
		if a.Neg || a.M != nil {
			t.Errorf("%v beside the error %d", a, e)
		}
		return nil
	}
	n := bigOf(a.M)
	if a.Neg {
		n.Neg(n)
	}
	return n
}

func text(n *big.Int) string {
	if n == nil {
		return "nothing"
	}
	return n.Text(16)
}

func shown(a api.Frac) string {
	sign := ""
	if a.N.Neg {
		sign = "-"
	}
	return sign + text(bigOf(a.N.M)) + "/" + text(bigOf(a.D))
}

// valid is the number, or nil for what is none.
func valid(a api.Frac) *big.Rat {
	n, d := bigOf(a.N.M), bigOf(a.D)
	if d.BitLen() == 0 || d.BitLen() > mostBits || n.BitLen() > mostBits {
		return nil
	}
	if a.N.Neg {
		n.Neg(n)
	}
	return ratio(n, d)
}

// answer is what a call told, and what the source tells behind it.
type answer struct {
	y    string
	e    api.Errno
	read int
	dry  bool
}

func (a answer) String() string {
	return a.y + ", error " + strconv.Itoa(int(a.e)) + ", " + strconv.Itoa(a.read) + " bits, dry " + strconv.FormatBool(a.dry)
}

// refused is the answer where nothing is drawn.
func refused(s *bits.Source, e api.Errno) answer { return answer{text(nil), e, s.Read(), s.Dry()} }

func modelled(s *bits.Source, draw func(p plain) *big.Int) answer {
	y, read, dry, e := drawn(s, draw)
	return answer{text(y), e, read, dry}
}

// holds asks whether a call told what the model does.
func holds(t *testing.T, call string, s *bits.Source, a api.Int, e api.Errno, want answer) answer {
	t.Helper()
	got := answer{text(intOf(t, a, e)), e, s.Read(), s.Dry()}
	if got != want {
		t.Fatalf("%s: %s, want %s", call, got, want)
	}
	return got
}

func slope(t *testing.T, s *bits.Source, n api.Nat) answer {
	t.Helper()
	m := bigOf(n)
	want := refused(s, api.ErrArg)
	if m.Sign() > 0 && m.BitLen() <= mostBits {
		want = modelled(s, func(p plain) *big.Int { return p.slope(m) })
	}
	a, e := gauss.Slope(s, n)
	return holds(t, "Slope of "+text(m), s, a, e, want)
}

func bell(t *testing.T, s *bits.Source, w api.Frac) answer {
	t.Helper()
	x := valid(w)
	want := refused(s, api.ErrArg)
	if x != nil && x.Sign() > 0 {
		want = modelled(s, func(p plain) *big.Int { return p.bell(x) })
	}
	a, e := gauss.Bell(s, w)
	return holds(t, "Bell of "+shown(w), s, a, e, want)
}
