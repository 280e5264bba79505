package parse

import (
	"stepstone/api"
	"stepstone/tree"
)

// tokens are those of a source that are left. Its methods take what has to be next; where it is not, they end the reading by a fault. So nothing is taken that the tokens before it can't be followed by.
type tokens struct {
	left []api.Token
	end  int // of the source
	open int // brackets, and signs ahead of what they belong to
}

// next is behind the last token one without a kind or text, at the source's end.
func (t *tokens) next() api.Token {
	if t.isDone() {
		return api.Token{At: t.end}
	}
	return t.left[0]
}

func (t *tokens) isDone() bool { return len(t.left) == 0 }

func (t *tokens) is(text string) bool { return t.next().Text == text }

// need ends the reading at the next token, unless what it must be is true.
func (t *tokens) need(is bool, e api.Errno) {
	if !is {
		panic(api.Fault{E: e, At: t.next().At})
	}
}

func (t *tokens) take(text string) {
	t.need(t.is(text), api.ErrSyntax)
	t.left = t.left[1:]
}

// try takes a token if it is there.
func (t *tokens) try(text string) bool {
	if !t.is(text) {
		return false
	}
	t.take(text)
	return true
}

// opens takes what is open from here on.
func (t *tokens) opens(text string) {
	t.need(t.is(text), api.ErrSyntax)
	t.need(t.open < api.MaxDepth, api.ErrDepth)
	t.take(text)
	t.open++
}

// ends is for what is not open any more, though no token says so.
func (t *tokens) ends() { t.open-- }

func (t *tokens) closes(text string) {
	t.take(text)
	t.ends()
}

func (t *tokens) name() string {
	text := t.next().Text
	t.need(tree.Name(text), api.ErrSyntax)
	t.take(text)
	return text
}

// number is for where a number is next.
func (t *tokens) number() string {
	text := t.next().Text
	t.need(len(text) <= api.MaxNumeral, api.ErrLong)
	t.take(text)
	return text
}
