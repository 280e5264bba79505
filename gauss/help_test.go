package gauss_test

import (
	"encoding/binary"
	"math/big"
	"math/rand/v2"
	"slices"
	"testing"

	"stepstone/api"
	"stepstone/bits"
)

// The chapters' limits.
const (
	mostLimbs = 2048
	mostBits  = 64 * mostLimbs
)

func pow2(n int) *big.Int { return new(big.Int).Lsh(big.NewInt(1), uint(n)) }

// near is 2 to the power of n, and so much more.
func near(n int, more int64) *big.Int { return new(big.Int).Add(pow2(n), big.NewInt(more)) }

func natOf(n *big.Int) api.Nat {
	m := make(api.Nat, (n.BitLen()+63)/64)
	bytes := n.FillBytes(make([]byte, 8*len(m)))
	for i := range m {
		m[len(m)-1-i] = binary.BigEndian.Uint64(bytes[8*i:])
	}
	return m
}

func bigOf(m api.Nat) *big.Int {
	var bytes []byte
	for _, limb := range slices.Backward(m) {
		bytes = binary.BigEndian.AppendUint64(bytes, limb)
	}
	return new(big.Int).SetBytes(bytes)
}

func isNormal(m api.Nat) bool { return len(m) == 0 || m[len(m)-1] != 0 }

func rat(n, d int64) *big.Rat { return big.NewRat(n, d) }

func ratio(n, d *big.Int) *big.Rat { return new(big.Rat).SetFrac(n, d) }

func fracOf(x *big.Rat) api.Frac { return timesOf(x, big.NewInt(1)) }

// timesOf is x with both numbers times k, so not in lowest terms.
func timesOf(x *big.Rat, k *big.Int) api.Frac {
	n := new(big.Int).Mul(x.Num(), k)
	return api.Frac{N: api.Int{Neg: n.Sign() < 0, M: natOf(n.Abs(n))}, D: natOf(new(big.Int).Mul(x.Denom(), k))}
}

// script makes bytes of bits that are written as 0 and 1; what is missing of the last byte is 0.
func script(digits string) string {
	out := make([]byte, (len(digits)+7)/8)
	for i, c := range digits {
		if c == '1' {
			out[i/8] |= 0x80 >> (i % 8)
		}
	}
	return string(out)
}

// behind is a source of which n bits are left, those of the number.
func behind(t *testing.T, n int, number uint64) *bits.Source {
	t.Helper()
	size := (n + 7) / 8
	bytes := binary.BigEndian.AppendUint64(nil, number)
	s := bits.New(string(bytes[8-size:]))
	if _, e := s.Number(8*size - n); e != api.OK {
		t.Fatalf("%d bits can't be passed over", 8*size-n)
	}
	return s
}

func anyScript(g *rand.Rand, most int) string {
	out := make([]byte, g.IntN(most+1))
	kind := g.IntN(4)
	for i := range out {
		switch kind {
		case 0:
			out[i] = byte(g.Uint32() & g.Uint32() & g.Uint32())
		case 1:
			out[i] = byte(g.Uint32() | g.Uint32() | g.Uint32())
		default:
			out[i] = byte(g.Uint32())
		}
	}
	return string(out)
}

// dried is a source that has been asked for a bit after its last one.
func dried(t *testing.T, text string) *bits.Source {
	t.Helper()
	s := bits.New(text)
	s.Number(8*len(text) + 1)
	if !s.Dry() {
		t.Fatal("the source is not dry")
	}
	return s
}

func anyBytes(g *rand.Rand, n int) string {
	out := make([]byte, n)
	for i := range out {
		out[i] = byte(g.Uint32())
	}
	return string(out)
}

// natInt is a number above 0 of up to n bits.
func natInt(g *rand.Rand, n int) *big.Int {
	m := new(big.Int)
	for i := range 1 + g.IntN(n) {
		m.SetBit(m, i, uint(g.IntN(2)))
	}
	if m.Sign() == 0 {
		return big.NewInt(1)
	}
	return m
}

// anyNat is a number of any sort, now and then 0.
func anyNat(g *rand.Rand) api.Nat {
	var m api.Nat
	switch g.IntN(10) {
	case 0:
		m = natOf(near(g.IntN(70), int64(g.IntN(3))-1))
	case 1:
		m = make(api.Nat, g.IntN(4))
		for i := range m {
			m[i] = g.Uint64()
		}
	case 2:
		m = natOf(near(g.IntN(9), int64(g.IntN(3))-1))
	default:
		m = natOf(big.NewInt(int64(g.IntN(40))))
	}
	return append(m, make(api.Nat, g.IntN(2)*g.IntN(3))...)
}

// anyFrac is a number of any sort, now and then one that is not above 0, or not valid.
func anyFrac(g *rand.Rand) api.Frac {
	x := rat(g.Int64N(60)-1, 1+g.Int64N(20))
	switch g.IntN(12) {
	case 0:
		return timesOf(x, big.NewInt(0))
	case 1:
		x = ratio(natInt(g, 130), natInt(g, 130))
	case 2:
		x = ratio(natInt(g, 20), pow2(g.IntN(24)))
	case 3:
		k := g.Int64N(50)
		x = rat(k*k+g.Int64N(3)-1, 1)
	}
	return timesOf(x, big.NewInt(1+g.Int64N(2)*g.Int64N(7)))
}
