package parse_test

import (
	"math/rand/v2"
	"strings"

	"stepstone/api"
)

func oneOf[T any](g *rand.Rand, l ...T) T { return l[g.IntN(len(l))] }

// heights are how many rules are in each other, at least, in what a rule, or a word, may be.
func (g *grammar) heights() ([]int, map[string]int) {
	const none = 1 << 20
	rules, words := make([]int, len(g.rules)), map[string]int{}
	for left := range g.of {
		words[left] = none
	}
	for again := true; again; {
		again = false
		for i, r := range g.rules {
			rules[i] = 1
			for _, word := range r.right {
				rules[i] = max(rules[i], words[word]+1)
			}
			if rules[i] < words[r.left] {
				words[r.left] = rules[i]
				again = true
			}
		}
	}
	return rules, words
}

// anyTexts makes the tokens of what a grammar's word may be.
type anyTexts struct {
	g       *rand.Rand
	by      *grammar
	heights []int
	out     []string
}

func newAny(g *rand.Rand, by *grammar) *anyTexts {
	heights, _ := by.heights()
	return &anyTexts{g: g, by: by, heights: heights}
}

func (a *anyTexts) texts(word string, height int) []string {
	a.out = nil
	a.write(word, height)
	return a.out
}

func (a *anyTexts) write(word string, height int) {
	switch word {
	case "NAME":
		a.out = append(a.out, oneOf(a.g, "a", "b", "n", "x_1", "normal", "datas", "In"))
		return
	case "NUMBER":
		a.out = append(a.out, oneOf(a.g, "0", "1", "2.5", "1e-3"))
		return
	}
	rules := a.by.of[word]
	if rules == nil {
		a.out = append(a.out, word)
		return
	}
	for _, w := range a.by.rules[a.rule(rules, height)].right {
		a.write(w, height-1)
	}
}

// rule is one of which there is enough height for, or the one that needs the least.
func (a *anyTexts) rule(rules []int, height int) int {
	least := rules[0]
	var fit []int
	for _, i := range rules {
		if a.heights[i] <= height {
			fit = append(fit, i)
		}
		if a.heights[i] < a.heights[least] {
			least = i
		}
	}
	if fit == nil {
		return least
	}
	return oneOf(a.g, fit...)
}

// everyToken are texts of tokens of all sorts.
func everyToken() []string {
	out := append(signs(), taken()...)
	return append(out, "a", "1", "2.5e3", "f", "datas", strings.Repeat("7", mostNumeral+1))
}

// joined puts something between tokens: as little as may be, or more.
func joined(g *rand.Rand, texts []string) string {
	if g.IntN(3) == 0 {
		return strings.Join(texts, " ")
	}
	var out strings.Builder
	for i, text := range texts {
		if i > 0 && (!isSign(texts[i-1]) && !isSign(text) || makesOther(texts[i-1]+text) || g.IntN(4) == 0) {
			out.WriteString(oneOf(g, " ", "\n", "\t ", " // }\n"))
		}
		out.WriteString(text)
	}
	return out.String()
}

func isSign(text string) bool {
	return strings.Trim(text[:1], "=!<>+{}[]()-*/~,;:") == ""
}

// makesOther tells whether two texts, side by side, would be read as others.
func makesOther(text string) bool {
	for _, s := range []string{"==", "!=", "<=", ">=", "+=", "//"} {
		if strings.Contains(text, s) && isSign(text) {
			return true
		}
	}
	return false
}

// Random trees, whatever the grammar is.

func anyExpr(g *rand.Rand, depth int) api.Expr {
	name := oneOf(g, "a", "b", "y", "lowers", "T")
	if depth <= 0 || g.IntN(5) == 0 {
		return oneOf(g, api.Expr{Op: api.ExNum, Name: "1"}, api.Expr{Op: api.ExNum, Name: "0.5e1"}, api.Expr{Op: api.ExName, Name: name}, api.Expr{Op: api.ExCall, Name: name})
	}
	a, b := anyExpr(g, depth-1), anyExpr(g, depth-1)
	switch op := oneOf(g, api.ExIndex, api.ExCall, api.ExNeg, api.ExAdd, api.ExSub, api.ExMul, api.ExDiv); op {
	case api.ExIndex:
		return api.Expr{Op: op, Name: name, Kids: []api.Expr{a}}
	case api.ExCall:
		return api.Expr{Op: op, Name: name, Kids: []api.Expr{a, b, a}[:g.IntN(4)]}
	case api.ExNeg:
		return api.Expr{Op: op, Kids: []api.Expr{a}}
	default:
		return api.Expr{Op: op, Kids: []api.Expr{a, b}}
	}
}

func anyExprs(g *rand.Rand, least, most int) []api.Expr {
	var out []api.Expr
	for range least + g.IntN(most-least+1) {
		out = append(out, anyExpr(g, g.IntN(4)))
	}
	return out
}

func anyStmts(g *rand.Rand, depth int) []api.Stmt {
	var out []api.Stmt
	for range g.IntN(4) {
		s := api.Stmt{Op: 1 + uint8(g.IntN(3)), Name: oneOf(g, "a", "y", "normal")}
		if depth > 0 {
			s.Op = 1 + uint8(g.IntN(6))
		}
		switch s.Op {
		case api.StSet:
			s.Kids = anyExprs(g, 1, 2)
		case api.StAdd:
			s.Name, s.Kids = "", anyExprs(g, 1, 1)
		case api.StDist:
			s.Kids = anyExprs(g, 1, 4)
		case api.StFor:
			s.Kids, s.Body = anyExprs(g, 2, 2), anyStmts(g, depth-1)
		case api.StIf:
			s.Name, s.Body, s.Else = "", anyStmts(g, depth-1), anyStmts(g, depth-1)
			s.Kids = []api.Expr{{Op: api.ExEq + uint8(g.IntN(6)), Kids: anyExprs(g, 2, 2)}}
		case api.StBlock:
			s.Name, s.Body = "", anyStmts(g, depth-1)
		}
		out = append(out, s)
	}
	return out
}

func anyDecls(g *rand.Rand, mayHaveInit bool) []api.Decl {
	var out []api.Decl
	for range g.IntN(4) {
		d := api.Decl{Type: 1 + uint8(g.IntN(5)), Name: oneOf(g, "a", "n", "uppers"), Lower: anyExprs(g, 0, 1), Upper: anyExprs(g, 0, 1)}
		if d.Type >= api.TyVec {
			d.Size = anyExprs(g, 1, 1)
		}
		if d.Type <= api.TyVec && mayHaveInit {
			d.Init = anyExprs(g, 0, 1)
		}
		out = append(out, d)
	}
	return out
}

func anyProg(g *rand.Rand) api.Prog {
	var p api.Prog
	for i := range p.Blocks {
		if g.IntN(3) == 0 {
			continue
		}
		given := i == api.BkData || i == api.BkPars
		p.Blocks[i].Is = true
		if i != api.BkModel {
			p.Blocks[i].Decls = anyDecls(g, !given)
		}
		if !given {
			p.Blocks[i].Stmts = anyStmts(g, 3)
		}
	}
	return p
}
