// Package notch is layer 1: see shared/doc/01-notch.md.
package notch

import "math/bits"

// widest is how many bytes a number has, at most, after the one that counts them.
const widest = 8

func Num(l ...uint64) string {
	var out []byte
	for _, n := range l {
		out = appendNum(out, n)
	}
	return string(out)
}

func Text(s string) string { return Num(uint64(len(s))) + s }

func Long(n uint64) int { return 1 + width(n) }

func width(n uint64) int { return (bits.Len64(n) + 7) / 8 }

// appendNum puts the count of bytes first, then the highest byte: so the bytes are in the numbers' order.
func appendNum(out []byte, n uint64) []byte {
	w := width(n)
	out = append(out, byte(w))
	for i := w - 1; i >= 0; i-- {
		out = append(out, byte(n>>(8*i)))
	}
	return out
}
