package token_test

import (
	"strings"
	"testing"

	"stepstone/api"
)

const (
	letters = "abcdefghijklmnopqrstuvwxyzABCDEFGHIJKLMNOPQRSTUVWXYZ"
	digits  = "0123456789"
)

// P11.1: names of one letter, and of more bytes: letters, _ and digits behind the first one.
func TestReadNames(t *testing.T) {
	for _, c := range letters {
		readsOne(t, api.TkName, string(c))
		readsOne(t, api.TkName, "x"+string(c))
	}
	for _, c := range digits + "_" {
		readsOne(t, api.TkName, "x"+string(c))
		readsOne(t, api.TkName, "x"+string(c)+"y")
	}
	for _, s := range []string{"e", "E", "e5", "e12345", "a_", "a__", "a_b", "a_1", "a1_", "a1b2", "Z9_z", "x1e5", "data", "target", "transformed", "azAZ_09", strings.Repeat("long_1", 1600)} {
		readsOne(t, api.TkName, s)
	}
}

// P11.1: a name ends where what follows it is neither letter nor digit.
func TestReadBehindName(t *testing.T) {
	for c := range 256 {
		b := string([]byte{byte(c)})
		switch {
		case strings.Contains(letters+digits+"_", b):
			reads(t, "ab"+b, "0 name ab"+b)
		case strings.Contains("{}[]()<>=+-*/~,;:", b):
			reads(t, "ab"+b, "0 name ab|2 sign "+b)
		case strings.Contains(" \t\n\r", b):
			reads(t, "ab"+b, "0 name ab")
		default:
			fails(t, "ab"+b, api.ErrLex, 2)
		}
	}
	fails(t, "a.b", api.ErrLex, 1)
	fails(t, "a!b", api.ErrLex, 1)
	reads(t, "a!=b", "0 name a|1 sign !=|3 name b")
	reads(t, "a+=b", "0 name a|1 sign +=|3 name b")
}

// P11.1: a _ does not begin a name.
func TestReadUnderscore(t *testing.T) {
	for _, s := range []string{"_", "__", "_a", "_1", "_a_", "_=="} {
		failsHere(t, s)
	}
	fails(t, ";_", api.ErrLex, 1)
	fails(t, "a _", api.ErrLex, 2)
}

// P11.1: numbers with and without the dot, with and without the exponent, with each sign of it.
func TestReadNumbers(t *testing.T) {
	wholes := []string{"0", "7", "9", "00", "007", "10", "123", "1234567890", strings.Repeat("9", 500)}
	parts := []string{"", ".0", ".5", ".00", ".05", ".25", ".12345", ".9876543210"}
	exponents := []string{"", "e0", "e5", "e9", "e00", "e12", "e123", "e1234", "e9999", "e0000", "e0001", "e+0", "e+1", "e+12", "e+1234", "e+0000", "e-0", "e-1", "e-12", "e-1234", "e-9999", "e-0001"}
	for _, whole := range wholes {
		for _, part := range parts {
			for _, exponent := range exponents {
				readsOne(t, api.TkNumber, whole+part+exponent)
			}
		}
	}
	for _, c := range digits {
		readsOne(t, api.TkNumber, string(c))
		readsOne(t, api.TkNumber, "1."+string(c))
		readsOne(t, api.TkNumber, "1e"+string(c))
		readsOne(t, api.TkNumber, "1e-"+string(c))
	}
	readsOne(t, api.TkNumber, strings.Repeat("1", 4990)+"."+strings.Repeat("2", 4990))
}

// P11.1: exponents of more than four digits, also with zeros in front, are faults at the number's place.
func TestReadExponents(t *testing.T) {
	for _, number := range []string{"1", "0", "12", "1.5", "0.25", "123456"} {
		for _, sign := range []string{"", "+", "-"} {
			for _, n := range []string{"12345", "00000", "00001", "01234", "99999", "123456", "000000", "0000000001", strings.Repeat("1", 300)} {
				failsHere(t, number+"e"+sign+n)
			}
		}
	}
	// The digits ahead of the exponent are not counted.
	readsOne(t, api.TkNumber, "12345678e1234")
	readsOne(t, api.TkNumber, "1.12345678e-1234")
}

// P11.1: a number ends right before a sign, a blank, a comment, the end; a letter, _, a dot right behind it, and what is no token by itself, are faults.
func TestReadBehindNumber(t *testing.T) {
	for _, number := range []string{"1", "12", "1.5", "0.25", "1e5", "1e+5", "1e-1234", "2.5e3", "2.5e-0001"} {
		for _, s := range signs() {
			reads(t, number+s, one(api.TkNumber, number, 0)+"|"+one(api.TkSign, s, len(number)))
		}
		for _, b := range append(blanks(), "//", "// 1", "//.5", "//e5\n", "") {
			reads(t, number+b, one(api.TkNumber, number, 0))
		}
		for _, c := range letters + "_." {
			failsHere(t, number+string(c))
			failsHere(t, number+string(c)+"x")
			failsHere(t, number+string(c)+"_")
		}
		for _, c := range []string{"\x00", "\x7f", "\x80", "\xff", "\x0c", "#", "\"", "'", "!", "é"} {
			fails(t, number+c, api.ErrLex, len(number))
			fails(t, " "+number+c, api.ErrLex, 1+len(number))
		}
	}
	reads(t, "1-2", "0 number 1|1 sign -|2 number 2")
	reads(t, "1e5-2", "0 number 1e5|3 sign -|4 number 2")
	reads(t, "1e-5-2+3", "0 number 1e-5|4 sign -|5 number 2|6 sign +|7 number 3")
	reads(t, "-1", "0 sign -|1 number 1")
	reads(t, "1,2", "0 number 1|1 sign ,|2 number 2")
}

// P11.1: numbers that go on in a way in which no number does: without a digit behind the dot, or e, or its sign; with two of a kind.
func TestReadWrongNumbers(t *testing.T) {
	for _, s := range []string{
		"1.", "12.", "0..", "1..5", "1.;", "1.+", "1.-5", "1.e", "1.e5", "1.x", "1._", "1.2.", "1.2.3", "1.2..", "1.2.x", "1.=", "1.(",
		"1e", "1e;", "1e+", "1e-", "1e+;", "1e-;", "1e++1", "1e--1", "1e+-1", "1e-+1", "1e+x", "1e-x", "1e+.", "1e.5", "1e.", "1e-.5", "1ee", "1ee5", "1e=", "1e+=", "1e+=5", "1e*", "1e_", "1e_5", "1e+_5",
		"1.5e", "1.5e;", "1.5e+", "1.5e-", "1.5e-x", "1.5ee5", "1.5e.5", "1.5e_",
		"1e5e", "1e5e5", "1e5e-5", "1e5.", "1e5.5", "1e-5.5", "1e5x", "1e5_", "1e+5e5", "2.5e3.5", "2.5e3x", "2.5e3_",
		"1E5", "1.5E5", "1E", "1E+5", "1x", "1_", "1_000", "0x10", "0b1", "1i", "1.5f", "12ab", "1a.5",
	} {
		failsHere(t, s)
	}
	for _, s := range []string{"1. 5", "1e 5", "1e +5", "1e+ 5", "1e- 5", "1.\n5", "1.//\n5", "1e//\n5"} {
		fails(t, s, api.ErrLex, 0)
	}
}

// P11.1: each sign alone, and right before each other one: the first one of the list that is there is read.
func TestReadSigns(t *testing.T) {
	by := newModel()
	for _, a := range signs() {
		readsOne(t, api.TkSign, a)
		reads(t, a+"x", one(api.TkSign, a, 0)+"|"+one(api.TkName, "x", len(a)))
		reads(t, a+"1", one(api.TkSign, a, 0)+"|"+one(api.TkNumber, "1", len(a)))
		for _, b := range signs() {
			readsPair(t, a, b)
			for _, c := range signs() {
				by.check(t, a+b+c)
			}
		}
	}
	for s, want := range map[string]string{
		"===": "0 sign ==|2 sign =", "====": "0 sign ==|2 sign ==", "=": "0 sign =", "==": "0 sign ==", "=!=": "0 sign =|1 sign !=", "!==": "0 sign !=|2 sign =",
		"<==": "0 sign <=|2 sign =", ">==": "0 sign >=|2 sign =", "=<": "0 sign =|1 sign <", "=>": "0 sign =|1 sign >", "<>": "0 sign <|1 sign >", "><=": "0 sign >|1 sign <=", "<<=": "0 sign <|1 sign <=",
		"+=": "0 sign +=", "=+": "0 sign =|1 sign +", "=+=": "0 sign =|1 sign +=", "++=": "0 sign +|1 sign +=", "+==": "0 sign +=|2 sign =", "+ =": "0 sign +|2 sign =",
		"-=": "0 sign -|1 sign =", "*=": "0 sign *|1 sign =", "/=": "0 sign /|1 sign =", "~=": "0 sign ~|1 sign =", ":=": "0 sign :|1 sign =", "--": "0 sign -|1 sign -", "++": "0 sign +|1 sign +",
	} {
		reads(t, s, want)
	}
}

// readsPair checks two signs side by side: they are read as they are, unless the second one's beginning goes with the first one.
func readsPair(t *testing.T, a, b string) {
	t.Helper()
	switch {
	case a == "/" && b == "/":
		reads(t, a+b, "")
	case strings.Contains("=<>+", a) && b == "=":
		reads(t, a+b, one(api.TkSign, a+"=", 0))
	case strings.Contains("=<>+", a) && b == "==":
		reads(t, a+b, one(api.TkSign, a+"=", 0)+"|"+one(api.TkSign, "=", 2))
	default:
		reads(t, a+b, one(api.TkSign, a, 0)+"|"+one(api.TkSign, b, len(a)))
	}
}

// P11.1: what is no letter, digit, blank or sign is no token; ! and . are none by themselves.
func TestReadNoToken(t *testing.T) {
	for c := range 256 {
		b := string([]byte{byte(c)})
		switch {
		case strings.Contains(letters, b), strings.Contains(digits, b), strings.Contains("{}[]()<>=+-*/~,;:", b), strings.Contains(" \t\n\r", b):
			if _, f := newModel().read(b); f != (api.Fault{}) {
				t.Errorf("the model has a fault at byte %d", c)
			}
			newModel().check(t, b)
		default:
			failsHere(t, b)
		}
	}
	for _, s := range []string{"!", "!!", "! =", "!x", "!<", "!!=", ".", "..", ".5", ".e5", ".x", "\x0c", "\x0b", "\"a\"", "'a'", "`a`", "#", "$x", "%", "&", "&&", "|", "^", "?", "@", "\\", "\\n", "é", "ñame", "\u00a0", "\ufeff", "\u2028", "\x85", "\xa0", "\x00", "\x1a", "\x7f", "\x80", "\xc3", "\xff", "\xfe\xff"} {
		failsHere(t, s)
	}
	fails(t, "x\x00", api.ErrLex, 1)
	fails(t, "café", api.ErrLex, 3)
	fails(t, "/!", api.ErrLex, 1)
	fails(t, "=!", api.ErrLex, 1)
}
