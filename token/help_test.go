package token_test

import (
	"slices"
	"strconv"
	"strings"
	"testing"

	"stepstone/api"
	"stepstone/token"
)

// The chapter's limits.
const (
	mostBytes  = 20000
	mostTokens = 6000
)

// signs is the chapter's list.
func signs() []string {
	return strings.Fields("== != <= >= += { } [ ] ( ) < > = + - * / ~ , ; :")
}

func blanks() []string { return []string{" ", "\t", "\n", "\r"} }

// kindNames are the words by which tests tell the kinds, which are their places in the list.
func kindNames() []string { return []string{"none", "name", "number", "sign"} }

// written is tokens as a line: place, kind, text of each, divided by bars, which no token has in it.
func written(l []api.Token) string {
	var out []string
	for _, t := range l {
		kind := "kind " + strconv.Itoa(int(t.Kind))
		if int(t.Kind) < len(kindNames()) {
			kind = kindNames()[t.Kind]
		}
		out = append(out, strconv.Itoa(t.At)+" "+kind+" "+t.Text)
	}
	return strings.Join(out, "|")
}

// shown is a source as far as a message has room for it.
func shown(s string) string {
	if len(s) > 200 {
		return strconv.Quote(s[:100]) + " .. " + strconv.Quote(s[len(s)-100:]) + " of " + strconv.Itoa(len(s)) + " bytes"
	}
	return strconv.Quote(s)
}

func shownFault(f api.Fault) string {
	return "error " + strconv.Itoa(int(f.E)) + " at " + strconv.Itoa(f.At)
}

// reads checks that a source has these tokens, and no fault.
func reads(t *testing.T, s, want string) {
	t.Helper()
	l, f := token.Read(s)
	if f != (api.Fault{}) || written(l) != want {
		t.Errorf("Read(%s) = %s, %s, want %s", shown(s), shown(written(l)), shownFault(f), shown(want))
		return
	}
	lawful(t, s, l)
}

// one is a token as a line.
func one(kind uint8, text string, at int) string {
	return written([]api.Token{{Kind: kind, Text: text, At: at}})
}

// readsOne checks that a text is one token, by itself and with something around it.
func readsOne(t *testing.T, kind uint8, text string) {
	t.Helper()
	reads(t, text, one(kind, text, 0))
	reads(t, " \t\r\n"+text+"\n", one(kind, text, 4))
	reads(t, text+" "+text, one(kind, text, 0)+"|"+one(kind, text, len(text)+1))
	reads(t, text+" //"+text, one(kind, text, 0))
}

// fails checks that a source has that fault, and nothing else.
func fails(t *testing.T, s string, e api.Errno, at int) {
	t.Helper()
	l, f := token.Read(s)
	if f != (api.Fault{E: e, At: at}) || len(l) != 0 {
		t.Errorf("Read(%s) = %d tokens, %s, want error %d at %d", shown(s), len(l), shownFault(f), e, at)
	}
}

// failsHere checks that there is no token at a text's beginning, also with something before and behind it.
func failsHere(t *testing.T, text string) {
	t.Helper()
	for _, before := range []string{"", " ", "x ", "x;", "// y\n", "1 ", "\n\n", "== "} {
		for _, behind := range []string{"", " ", ";", "//", "\n1", " #", " x y z"} {
			fails(t, before+text+behind, api.ErrLex, len(before))
		}
	}
}

// sameTokens tells whether tokens are the same, except for places.
func sameTokens(a, b []api.Token) bool {
	return slices.EqualFunc(a, b, func(x, y api.Token) bool { return x.Kind == y.Kind && x.Text == y.Text })
}

// texts are the tokens' texts.
func texts(l []api.Token) []string {
	var out []string
	for _, t := range l {
		out = append(out, t.Text)
	}
	return out
}
