package read_test

import (
	"math/rand/v2"
	"reflect"
	"regexp"
	"slices"
	"strconv"
	"strings"
	"testing"

	"afterword/api"
	"afterword/term"
)

// The words of layer 2 that are no names, and the signs, in the order in which they can come next.
const (
	keywordText = "after and as at both by count each else great group in is key lack least less let of once or other pair prev rest same shift slide source sum total val where within"
	signText    = "( ) , = + - *"
)

// candidates are all that can come next, but for the end.
func candidates() []string {
	return slices.Concat([]string{"0", "a"}, strings.Fields(keywordText), strings.Fields(signText))
}

// The S of the chapter.
const exampleText = `source buy, pay
let big = buy where val * 2 less 9 and pay % small ones
let sums = (big and prev 5 sums) group 10 by sum
let met = buy pair pay within 3 as val - other
`

func num(n int) api.Calc { return api.Calc{Op: api.CalcInt, N: n} }

func leaf(op api.CalcOp) api.Calc { return api.Calc{Op: op} }

func two(op api.CalcOp, a, b api.Calc) api.Calc { return api.Calc{Op: op, Kids: []api.Calc{a, b}} }

func src(name string) api.TermExp { return api.TermExp{Op: api.TermSrc, Name: name} }

func ref(name string) api.TermExp { return api.TermExp{Op: api.TermRef, Name: name} }

func prev(n int, name string) api.TermExp { return api.TermExp{Op: api.TermPrev, Name: name, N: n} }

func kids(op api.TermOp, n int, l ...api.TermExp) api.TermExp {
	return api.TermExp{Op: op, N: n, Kids: l}
}

func both(x, y api.TermExp) api.TermExp { return kids(api.TermBoth, 0, x, y) }

func once(x api.TermExp) api.TermExp { return kids(api.TermOnce, 0, x) }

func with(x api.TermExp, l ...api.Calc) api.TermExp {
	x.Calcs = l
	return x
}

func folded(x api.TermExp, fold api.TermFold) api.TermExp {
	x.Fold = fold
	return x
}

func let(name string, x api.TermExp) api.TermDef { return api.TermDef{Name: name, Exp: x} }

func prog(srcs string, defs ...api.TermDef) api.TermProg {
	return api.TermProg{Srcs: strings.Fields(srcs), Defs: defs}
}

// exampleProg is what S says.
func exampleProg() api.TermProg {
	val := leaf(api.CalcVal)
	return prog("buy pay",
		let("big", both(with(kids(api.TermWhere, 0, src("buy")), two(api.CalcLess, two(api.CalcMul, val, num(2)), num(9))), src("pay"))),
		let("sums", folded(kids(api.TermGroup, 10, both(ref("big"), prev(5, "sums"))), api.FoldSum)),
		let("met", with(kids(api.TermPair, 3, src("buy"), src("pay")), two(api.CalcSub, val, leaf(api.CalcOther)))))
}

// row is what a kind of expressions with Kids has.
type row struct {
	op          api.TermOp
	kids, calcs int
	least, most int
	fold        bool
}

var rows = []row{
	{op: api.TermBoth, kids: 2},
	{op: api.TermWhere, kids: 1, calcs: 1},
	{op: api.TermEach, kids: 1, calcs: 2},
	{op: api.TermShift, kids: 1, least: -50, most: 50},
	{op: api.TermGroup, kids: 1, least: 1, most: 50, fold: true},
	{op: api.TermSlide, kids: 1, most: 50, fold: true},
	{op: api.TermTotal, kids: 1, fold: true},
	{op: api.TermRest, kids: 1, least: 1, most: 50, fold: true},
	{op: api.TermPair, kids: 2, calcs: 1, most: 50},
	{op: api.TermAsof, kids: 2, calcs: 1},
	{op: api.TermLack, kids: 2, most: 50},
	{op: api.TermOnce, kids: 1},
}

func pick[T any](r *rand.Rand, l []T) T { return l[r.IntN(len(l))] }

var numbers = []int{0, 1, 2, 9, 10, -1, -10, 12345, 1000000000, -1000000000}

func randomCalc(r *rand.Rand, depth int, other bool) api.Calc {
	op := api.CalcOp(1 + r.IntN(10))
	switch {
	case op == api.CalcOther && !other:
		return leaf(api.CalcVal)
	case op == api.CalcInt || op >= api.CalcAdd && depth <= 1:
		return num(pick(r, numbers))
	case op >= api.CalcAdd:
		return two(op, randomCalc(r, depth-1, other), randomCalc(r, depth-1, other))
	}
	return leaf(op)
}

// randomExp is formed, as far as its leaves are, and as far as it does not look ahead in a ring.
func randomExp(r *rand.Rand, leaf func() api.TermExp, depth int) api.TermExp {
	if depth <= 1 || r.IntN(4) == 0 {
		return leaf()
	}
	w := pick(r, rows)
	x := api.TermExp{Op: w.op, N: w.least + r.IntN(w.most-w.least+1)}
	if w.fold {
		x.Fold = api.TermFold(1 + r.IntN(4))
	}
	for range w.kids {
		x.Kids = append(x.Kids, randomExp(r, leaf, depth-1))
	}
	for range w.calcs {
		x.Calcs = append(x.Calcs, randomCalc(r, 1+r.IntN(4), w.op == api.TermPair || w.op == api.TermAsof))
	}
	return x
}

var pool = []string{"a", "b", "c", "z", "aa"}

// randomProgs are formed.
func randomProgs(seed uint64, count int) []api.TermProg {
	r := rand.New(rand.NewPCG(seed, 3))
	names := append(slices.Clone(pool), "sources", "lets", "abcdefgh", "ass", "x", "y")
	var out []api.TermProg
	for len(out) < count {
		r.Shuffle(len(names), func(i, j int) { names[i], names[j] = names[j], names[i] })
		n, m := 1+r.IntN(4), r.IntN(6)
		p := api.TermProg{Srcs: slices.Clone(names[:n])}
		for i := n; i < n+m; i++ {
			leaf := func() api.TermExp {
				switch k := r.IntN(3); {
				case k == 0:
					return prev(1+r.IntN(50), names[n+r.IntN(m)])
				case k == 1 && i > n:
					return ref(names[n+r.IntN(i-n)])
				}
				return src(names[r.IntN(n)])
			}
			p.Defs = append(p.Defs, let(names[i], randomExp(r, leaf, 1+r.IntN(5))))
		}
		if term.Check(p) == api.OK {
			out = append(out, p)
		}
	}
	return out
}

// speller writes programs, and notes which tokens there are, and where the nodes stand.
type speller struct {
	blank func() string // what stands ahead of a token, and behind the last one
	extra func() int    // how many more brackets there are than there must be
	text  string
	all   []api.ReadToken
	spots []api.ReadSpot
}

// tight writes no blanks but those that must be, and no brackets but those.
func tight() *speller {
	return &speller{blank: func() string { return "" }, extra: func() int { return 0 }}
}

// loose writes any blanks and remarks, and any brackets.
func loose(r *rand.Rand) *speller {
	l := []string{"", "", "", " ", " ", " ", "  ", "\t", "\n", "\n\n", " % a remark let ? \xff)\n", "%\n", "\t%(,~%\n \n"}
	return &speller{blank: func() string { return pick(r, l) }, extra: func() int { return max(0, r.IntN(6)-3) }}
}

func isLetter(b byte) bool { return 'a' <= b && b <= 'z' }

func isDigit(b byte) bool { return '0' <= b && b <= '9' }

func kindOf(s string) api.ReadKind {
	switch {
	case slices.Contains(strings.Fields(keywordText), s):
		return api.ReadWord
	case isLetter(s[0]):
		return api.ReadName
	case isDigit(s[len(s)-1]):
		return api.ReadInt
	}
	return api.ReadSign
}

func (s *speller) add(words ...string) {
	for _, w := range words {
		s.text += s.blank()
		if n := len(s.text); n > 0 && (isLetter(s.text[n-1]) && isLetter(w[0]) || isDigit(s.text[n-1]) && isDigit(w[0])) {
			s.text += " "
		}
		s.all = append(s.all, api.ReadToken{Kind: kindOf(w), Text: w, At: len(s.text), Line: 1 + strings.Count(s.text, "\n")})
		s.text += w
	}
}

func integer(n int) string { return strings.Replace(strconv.Itoa(n), "-", "~", 1) }

// node notes the spot of what is written.
func (s *speller) node(write func()) {
	at, first := len(s.spots), len(s.all)
	s.spots = append(s.spots, api.ReadSpot{})
	write()
	last := s.all[len(s.all)-1]
	s.spots[at] = api.ReadSpot{From: s.all[first].At, To: last.At + len(last.Text)}
}

func (s *speller) within(must bool, write func()) {
	n := s.extra()
	if must {
		n++
	}
	s.add(slices.Repeat([]string{"("}, n)...)
	s.node(write)
	s.add(slices.Repeat([]string{")"}, n)...)
}

func (s *speller) prog(p api.TermProg) *speller {
	s.add("source", p.Srcs[0])
	for _, name := range p.Srcs[1:] {
		s.add(",", name)
	}
	for _, d := range p.Defs {
		s.def(d)
	}
	s.text += s.blank()
	return s
}

func (s *speller) def(d api.TermDef) {
	s.node(func() {
		s.add("let", d.Name, "=")
		s.exp(d.Exp, 0)
	})
}

// exp writes an expression at the level of an Exp (0), a Chain (1) or an Atom (2).
func (s *speller) exp(x api.TermExp, level int) {
	own := 1
	if x.Op == api.TermBoth {
		own = 0
	}
	if len(x.Kids) == 0 {
		own = 2
	}
	s.within(own < level, func() { s.inner(x) })
}

func (s *speller) inner(x api.TermExp) {
	fold, n := map[api.TermFold]string{1: "count", 2: "sum", 3: "least", 4: "great"}[x.Fold], integer(x.N)
	if len(x.Kids) > 0 {
		s.exp(x.Kids[0], min(1, int(x.Op-api.TermBoth)))
	}
	switch x.Op {
	case api.TermSrc, api.TermRef:
		s.add(x.Name)
	case api.TermPrev:
		s.add("prev", n, x.Name)
	case api.TermBoth:
		s.add("and")
		s.exp(x.Kids[1], 1)
	case api.TermWhere:
		s.add("where")
		s.calc(x.Calcs[0], 0)
	case api.TermEach:
		s.add("each")
		s.calc(x.Calcs[0], 0)
		s.add(",")
		s.calc(x.Calcs[1], 0)
	case api.TermShift:
		s.add("shift", n)
	case api.TermGroup:
		s.add("group", n, "by", fold)
	case api.TermSlide:
		s.add("slide", n, "by", fold)
	case api.TermTotal:
		s.add("total", "by", fold)
	case api.TermRest:
		s.add("rest", n, "by", fold)
	case api.TermPair:
		s.add("pair")
		s.exp(x.Kids[1], 2)
		s.add("within", n, "as")
		s.calc(x.Calcs[0], 0)
	case api.TermAsof:
		s.add("at")
		s.exp(x.Kids[1], 2)
		s.add("as")
		s.calc(x.Calcs[0], 0)
	case api.TermLack:
		s.add("lack")
		s.exp(x.Kids[1], 2)
		s.add("within", n)
	case api.TermOnce:
		s.add("once")
	}
}

// calc writes a term at the level of a Calc (0), a Sum (1), a Product (2) or a Unit (3).
func (s *speller) calc(c api.Calc, level int) {
	write := func(own, left, right int, word string) {
		s.within(own < level, func() {
			s.calc(c.Kids[0], left)
			s.add(word)
			s.calc(c.Kids[1], right)
		})
	}
	switch c.Op {
	case api.CalcInt:
		s.within(false, func() { s.add(integer(c.N)) })
	case api.CalcAt, api.CalcKey, api.CalcVal, api.CalcOther:
		s.within(false, func() { s.add([]string{"at", "key", "val", "other"}[c.Op-api.CalcAt]) })
	case api.CalcAdd:
		write(1, 1, 2, "+")
	case api.CalcSub:
		write(1, 1, 2, "-")
	case api.CalcMul:
		write(2, 2, 3, "*")
	case api.CalcLess:
		write(0, 1, 1, "less")
	case api.CalcSame:
		write(0, 1, 1, "same")
	}
}

// words are the texts of tokens.
func words(l []api.ReadToken) []string {
	var out []string
	for _, t := range l {
		out = append(out, t.Text)
	}
	return out
}

// The grammar of the chapter, without what may be left out: names are a, integers 0.
const grammarText = `
Text: Source
Text: Source Lets
Source: source Names
Names: a
Names: Names , a
Lets: Let
Lets: Lets Let
Let: let a = Exp
Exp: Chain
Exp: Exp and Chain
Chain: Atom
Chain: Chain Post
Post: where Calc
Post: each Calc , Calc
Post: shift 0
Post: group 0 by Fold
Post: slide 0 by Fold
Post: total by Fold
Post: rest 0 by Fold
Post: once
Post: pair Atom within 0 as Calc
Post: at Atom as Calc
Post: lack Atom within 0
Fold: count
Fold: sum
Fold: least
Fold: great
Atom: a
Atom: prev 0 a
Atom: ( Exp )
Calc: Sum
Calc: Sum less Sum
Calc: Sum same Sum
Sum: Product
Sum: Sum + Product
Sum: Sum - Product
Product: Unit
Product: Product * Unit
Unit: 0
Unit: at
Unit: key
Unit: val
Unit: other
Unit: ( Calc )
`

// grammar holds what each of its words may be.
func grammar() map[string][][]string {
	out := map[string][][]string{}
	for _, line := range strings.Split(strings.TrimSpace(grammarText), "\n") {
		head, body, _ := strings.Cut(line, ": ")
		out[head] = append(out[head], strings.Fields(body))
	}
	return out
}

// state is a rule that has been read up to some word, from some token on.
type state struct {
	head string
	rule int
	at   int
	from int
}

// chart goes through all ways to read tokens at once, after Earley.
type chart struct {
	rules map[string][][]string
	sets  [][]state
}

func chartOf(start string) *chart {
	c := &chart{rules: grammar()}
	var first []state
	for i := range c.rules[start] {
		first = append(first, state{head: start, rule: i})
	}
	c.close(first)
	return c
}

// wanted is the word ahead of which a state stands; none, if it is at its end.
func (c *chart) wanted(s state) string {
	if body := c.rules[s.head][s.rule]; s.at < len(body) {
		return body[s.at]
	}
	return ""
}

func (c *chart) close(set []state) {
	seen := map[state]bool{}
	var out []state
	for len(set) > 0 {
		s := set[0]
		set = set[1:]
		if seen[s] {
			continue
		}
		seen[s] = true
		out = append(out, s)
		w := c.wanted(s)
		for i := range c.rules[w] {
			set = append(set, state{head: w, rule: i, from: len(c.sets)})
		}
		if w == "" && s.from < len(c.sets) {
			for _, up := range c.sets[s.from] {
				if c.wanted(up) == s.head {
					up.at++
					set = append(set, up)
				}
			}
		}
	}
	c.sets = append(c.sets, out)
}

// next are the words that can come next.
func (c *chart) next() map[string]bool {
	out := map[string]bool{}
	for _, s := range c.sets[len(c.sets)-1] {
		if w := c.wanted(s); w != "" && c.rules[w] == nil {
			out[w] = true
		}
	}
	return out
}

// isWhole reports whether what is read is the start.
func (c *chart) isWhole(start string) bool {
	for _, s := range c.sets[len(c.sets)-1] {
		if s.head == start && s.from == 0 && c.wanted(s) == "" {
			return true
		}
	}
	return false
}

func (c *chart) read(word string) {
	var out []state
	for _, s := range c.sets[len(c.sets)-1] {
		if c.wanted(s) == word {
			s.at++
			out = append(out, s)
		}
	}
	c.close(out)
}

// class is what the grammar calls a token.
func class(t api.ReadToken) string {
	switch t.Kind {
	case api.ReadName:
		return "a"
	case api.ReadInt:
		return "0"
	}
	return t.Text
}

// follow reads tokens until one is not possible: how many it has read, and the chart of these.
func follow(start string, l []api.ReadToken) (int, *chart) {
	c := chartOf(start)
	for i, t := range l {
		if !c.next()[class(t)] {
			return i, c
		}
		c.read(class(t))
	}
	return len(l), c
}

var (
	gapRule   = regexp.MustCompile(`^(?:[ \t\n]|%[^\n]*)*`)
	cutRule   = regexp.MustCompile(`^(?:[a-z]+|~?[0-9]+|[(),=+*-])`)
	tokenRule = regexp.MustCompile(`^(?:[a-z]{1,8}|0|~?[1-9][0-9]{0,9}|[(),=+*-])$`)
)

// cut cuts a text by rules: its tokens ahead of the first wrong byte, and where that is, or the end.
func cut(text string) (out []api.ReadToken, at int, wrong bool) {
	for {
		at += len(gapRule.FindString(text[at:]))
		if at == len(text) {
			return out, at, false
		}
		s := cutRule.FindString(text[at:])
		if !tokenRule.MatchString(s) {
			return out, at, true
		}
		out = append(out, api.ReadToken{Kind: kindOf(s), Text: s, At: at, Line: lineOf(text, at)})
		at += len(s)
	}
}

func lineOf(text string, at int) int { return 1 + strings.Count(text[:at], "\n") }

// full has no nil lists.
func full(p api.TermProg) api.TermProg {
	out := api.TermProg{Srcs: append([]string{}, p.Srcs...), Defs: []api.TermDef{}}
	for _, d := range p.Defs {
		out.Defs = append(out.Defs, let(d.Name, fullExp(d.Exp)))
	}
	return out
}

func fullExp(x api.TermExp) api.TermExp {
	l, k := []api.Calc{}, []api.TermExp{}
	for _, c := range x.Calcs {
		l = append(l, fullCalc(c))
	}
	for _, y := range x.Kids {
		k = append(k, fullExp(y))
	}
	x.Calcs, x.Kids = l, k
	return x
}

func fullCalc(c api.Calc) api.Calc {
	l := []api.Calc{}
	for _, k := range c.Kids {
		l = append(l, fullCalc(k))
	}
	c.Kids = l
	return c
}

func equal(p, q api.TermProg) bool { return reflect.DeepEqual(full(p), full(q)) }

// nodes counts definitions, expressions and terms.
func nodes(p api.TermProg) int {
	n, _ := term.Nodes(p)
	return n + len(p.Defs)
}

func mustBe(t *testing.T, is bool, l ...any) {
	t.Helper()
	if !is {
		t.Error(l...)
	}
}
