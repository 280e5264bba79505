package parse_test

import (
	"slices"
	"strings"

	"stepstone/api"
)

// A reader of any grammar, which knows nothing of this one: it goes on with all rules at once that may still hold, token by token. So what it says of the beginnings of programs is what the grammar's text says.

// rule is what may be read as left.
type rule struct {
	left  string
	right []string
}

func (r rule) form() string { return strings.Join(r.right, " ") }

type grammar struct {
	rules []rule
	of    map[string][]int
}

// newGrammar is that of a text: a line is a word, ->, and what it may be, divided by bars.
func newGrammar(text string) *grammar {
	g := &grammar{of: map[string][]int{}}
	for line := range strings.Lines(strings.TrimSpace(text)) {
		left, right, _ := strings.Cut(strings.TrimSpace(line), " -> ")
		for form := range strings.SplitSeq(right, "|") {
			g.of[left] = append(g.of[left], len(g.rules))
			g.rules = append(g.rules, rule{left, strings.Fields(form)})
		}
	}
	return g
}

// node is what was read by a rule, or a token (rule -1), or nothing (without kids).
type node struct {
	rule
	token api.Token
	kids  []*node
}

// at is the place of the first token in it.
func (n *node) at() int {
	if len(n.kids) == 0 {
		return n.token.At
	}
	return n.kids[0].at()
}

// item is a rule of which something was read, from a token on.
type item struct{ rule, read, from int }

// column has the rules that may hold between two tokens, what was read of each, and which of them want a word next.
type column struct {
	items []item
	parts map[item][]*node
	want  map[string][]item
}

func newColumn() *column {
	return &column{parts: map[item][]*node{}, want: map[string][]item{}}
}

type chart struct {
	g       *grammar
	start   string
	columns []*column
}

func newChart(g *grammar, start string) *chart {
	c := &chart{g: g, start: start, columns: []*column{newColumn()}}
	c.predict(start)
	c.complete()
	return c
}

func (c *chart) last() *column { return c.columns[len(c.columns)-1] }

func (c *chart) add(it item, parts []*node) {
	col := c.last()
	if _, is := col.parts[it]; !is {
		col.items = append(col.items, it)
		col.parts[it] = parts
		symbol := c.wanted(it)
		col.want[symbol] = append(col.want[symbol], it)
		return
	}
	if it.read > 0 {
		panic("the grammar can be read in two ways")
	}
}

// wanted is what has to follow: nothing if a rule has been read.
func (c *chart) wanted(it item) string {
	if right := c.g.rules[it.rule].right; it.read < len(right) {
		return right[it.read]
	}
	return ""
}

func (c *chart) predict(symbol string) {
	for _, i := range c.g.of[symbol] {
		if len(c.g.rules[i].right) > 0 {
			c.add(item{i, 0, len(c.columns) - 1}, nil)
		}
	}
}

// advance goes on with an item of a column, behind what it wanted.
func (c *chart) advance(col *column, it item, n *node) {
	c.add(item{it.rule, it.read + 1, it.from}, slices.Concat(col.parts[it], []*node{n}))
}

// complete makes the last column whole.
func (c *chart) complete() {
	col := c.last()
	for i := 0; i < len(col.items); i++ {
		it := col.items[i]
		symbol := c.wanted(it)
		if symbol == "" {
			n := &node{rule: c.g.rules[it.rule], kids: col.parts[it]}
			for _, waiting := range c.columns[it.from].want[n.left] {
				c.advance(c.columns[it.from], waiting, n)
			}
			continue
		}
		c.predict(symbol)
		for _, r := range c.g.of[symbol] {
			if len(c.g.rules[r].right) == 0 {
				c.advance(col, it, &node{rule: c.g.rules[r]})
			}
		}
	}
}

// next takes a token; false, and nothing is changed, if what was read so far can't be followed by it.
func (c *chart) next(t api.Token) bool {
	before := c.last()
	c.columns = append(c.columns, newColumn())
	for _, it := range before.items {
		if isToken(c.wanted(it), t) {
			c.advance(before, it, &node{token: t})
		}
	}
	if len(c.last().items) == 0 {
		c.columns = c.columns[:len(c.columns)-1]
		return false
	}
	c.complete()
	return true
}

// back takes the last token back.
func (c *chart) back() { c.columns = c.columns[:len(c.columns)-1] }

// whole is what all tokens are read as; nil if they are the beginning only.
func (c *chart) whole() *node {
	col := c.last()
	for _, it := range col.want[""] {
		if it.from == 0 && c.g.rules[it.rule].left == c.start {
			return &node{rule: c.g.rules[it.rule], kids: col.parts[it]}
		}
	}
	return nil
}

// isToken tells whether a grammar's word stands for a token: by its kind, or its text.
func isToken(word string, t api.Token) bool {
	switch word {
	case "NAME":
		return t.Kind == api.TkName && !slices.Contains(taken(), t.Text)
	case "NUMBER":
		return t.Kind == api.TkNumber
	}
	return word == t.Text
}
