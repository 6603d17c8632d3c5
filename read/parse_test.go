package read_test

import (
	"math/rand/v2"
	"slices"
	"strings"
	"testing"

	"afterword/api"
	"afterword/read"
	"afterword/term"
)

// expIs reads an expression, as that of a definition d behind a definition c, with the sources a and b.
func expIs(t *testing.T, text string, want api.TermExp) {
	t.Helper()
	p, e := read.Parse("source a, b let c = a let d = " + text)
	mustBe(t, e == api.OK && equal(p, prog("a b", let("c", src("a")), let("d", want))), text, p, e)
}

func calcIs(t *testing.T, text string, want api.Calc) {
	t.Helper()
	expIs(t, "a at b as "+text, with(kids(api.TermAsof, 0, src("a"), src("b")), want))
}

// P3.4: the chapter's example.
func TestParseExample(t *testing.T) {
	p, e := read.Parse(exampleText)
	mustBe(t, e == api.OK && equal(p, exampleProg()), p, e)
	l, e := read.Spots(exampleText)
	mustBe(t, e == api.OK && len(l) == 22, l, e)
	for i, want := range []string{
		"let big = buy where val * 2 less 9 and pay", "buy where val * 2 less 9 and pay", "buy where val * 2 less 9", "buy", "val * 2 less 9", "val * 2", "val", "2", "9", "pay",
		"let sums = (big and prev 5 sums) group 10 by sum", "(big and prev 5 sums) group 10 by sum", "big and prev 5 sums", "big", "prev 5 sums",
		"let met = buy pair pay within 3 as val - other", "buy pair pay within 3 as val - other", "buy", "pay", "val - other", "val", "other",
	} {
		mustBe(t, i < len(l) && exampleText[l[i].From:l[i].To] == want, i, want)
	}
	mustBe(t, l[10] == api.ReadSpot{From: 72, To: 120} && l[14] == api.ReadSpot{From: 92, To: 103} && l[5] == api.ReadSpot{From: 36, To: 43}, l)
}

// P3.4: what each word of the grammar says.
func TestWordsSay(t *testing.T) {
	a, b, val, one := src("a"), src("b"), leaf(api.CalcVal), num(1)
	for text, want := range map[string]api.TermExp{
		"a":                      a,
		"c":                      ref("c"),
		"prev 7 d":               prev(7, "d"),
		"prev 7 c":               prev(7, "c"),
		"a and b":                both(a, b),
		"a where 1":              with(kids(api.TermWhere, 0, a), one),
		"a each 1, val":          with(kids(api.TermEach, 0, a), one, val),
		"a shift 0":              kids(api.TermShift, 0, a),
		"a shift ~50":            kids(api.TermShift, -50, a),
		"a group 3 by count":     folded(kids(api.TermGroup, 3, a), api.FoldCount),
		"a slide 0 by sum":       folded(kids(api.TermSlide, 0, a), api.FoldSum),
		"a total by least":       folded(kids(api.TermTotal, 0, a), api.FoldLeast),
		"a rest 50 by great":     folded(kids(api.TermRest, 50, a), api.FoldGreat),
		"a once":                 once(a),
		"a pair b within 3 as 1": with(kids(api.TermPair, 3, a, b), one),
		"a at b as val":          with(kids(api.TermAsof, 0, a, b), val),
		"a lack b within 3":      kids(api.TermLack, 3, a, b),
		"(a)":                    a,
		"((a))and(b)":            both(a, b),
	} {
		expIs(t, text, want)
	}
	for text, want := range map[string]api.Calc{
		"0": num(0), "~1": num(-1), "1000000000": num(1000000000), "~1000000000": num(-1000000000),
		"at": leaf(api.CalcAt), "key": leaf(api.CalcKey), "val": val, "other": leaf(api.CalcOther), "(val)": val,
		"1 + val": two(api.CalcAdd, one, val), "1 - val": two(api.CalcSub, one, val), "1 * val": two(api.CalcMul, one, val),
		"1 less val": two(api.CalcLess, one, val), "1 same val": two(api.CalcSame, one, val),
	} {
		calcIs(t, text, want)
	}
}

// P3.4: what goes together.
func TestGoesTogether(t *testing.T) {
	a, b, c, val := src("a"), src("b"), ref("c"), leaf(api.CalcVal)
	expIs(t, "a and b and c", both(both(a, b), c))
	expIs(t, "a and (b and c)", both(a, both(b, c)))
	expIs(t, "a and b once once and c", both(both(a, once(once(b))), c))
	expIs(t, "(a and b) once", once(both(a, b)))
	expIs(t, "a lack b within 1 lack c within 2", kids(api.TermLack, 2, kids(api.TermLack, 1, a, b), c))
	expIs(t, "a lack (b lack c within 2) within 1", kids(api.TermLack, 1, a, kids(api.TermLack, 2, b, c)))
	expIs(t, "a lack prev 3 c within 2 once", once(kids(api.TermLack, 2, a, prev(3, "c"))))
	expIs(t, "a where at at b as at at c as at", with(kids(api.TermAsof, 0, with(kids(api.TermAsof, 0, with(kids(api.TermWhere, 0, a), leaf(api.CalcAt)), b), leaf(api.CalcAt)), c), leaf(api.CalcAt)))
	expIs(t, "a each val less 1, val same 2 each 1, 2", with(kids(api.TermEach, 0, with(kids(api.TermEach, 0, a), two(api.CalcLess, val, num(1)), two(api.CalcSame, val, num(2)))), num(1), num(2)))
	add, sub, mul, less, same := api.CalcAdd, api.CalcSub, api.CalcMul, api.CalcLess, api.CalcSame
	one, x := num(1), num(2)
	calcIs(t, "1 - 2 - val", two(sub, two(sub, one, x), val))
	calcIs(t, "1 - (2 - val)", two(sub, one, two(sub, x, val)))
	calcIs(t, "1 + 2 - val + 1", two(add, two(sub, two(add, one, x), val), one))
	calcIs(t, "1 * 2 * val", two(mul, two(mul, one, x), val))
	calcIs(t, "1 + 2 * val", two(add, one, two(mul, x, val)))
	calcIs(t, "1 * 2 + val", two(add, two(mul, one, x), val))
	calcIs(t, "(1 + 2) * val", two(mul, two(add, one, x), val))
	calcIs(t, "1 - 2 less 1 + val * 2", two(less, two(sub, one, x), two(add, one, two(mul, val, x))))
	calcIs(t, "(1 less 2) same (val same 2)", two(same, two(less, one, x), two(same, val, x)))
	calcIs(t, "1-~2", two(sub, one, num(-2)))
}

// P3.4: programs by any texts that say them, and where all their nodes stand.
func TestRandomSpots(t *testing.T) {
	r := rand.New(rand.NewPCG(36, 36))
	for _, p := range randomProgs(36, 1500) {
		for _, s := range []*speller{tight(), loose(r), loose(r)} {
			s.prog(p)
			if len(s.text) > api.ReadLong {
				t.Fatal("long")
			}
			q, e := read.Parse(s.text)
			mustBe(t, e == api.OK && equal(p, q), s.text, q, e)
			l, e := read.Spots(s.text)
			mustBe(t, e == api.OK && slices.Equal(l, s.spots) && len(l) == nodes(p), s.text, l, e)
		}
	}
}

// bodies are the bytes of all spots of a text, those of expressions and those of terms, in the order of nodes.
type bodies struct {
	text  string
	spots []api.ReadSpot
	exps  []string
	calcs []string
	all   []api.TermExp
	terms []api.Calc
}

func (b *bodies) take() string {
	s := b.spots[0]
	b.spots = b.spots[1:]
	return b.text[s.From:s.To]
}

func (b *bodies) exp(x api.TermExp) {
	b.exps, b.all = append(b.exps, b.take()), append(b.all, x)
	for _, k := range x.Kids {
		b.exp(k)
	}
	for _, c := range x.Calcs {
		b.calc(c)
	}
}

func (b *bodies) calc(c api.Calc) {
	b.calcs, b.terms = append(b.calcs, b.take()), append(b.terms, c)
	for _, k := range c.Kids {
		b.calc(k)
	}
}

// P3.4: the bytes of a spot, read alone, say the node.
func TestSpotsAlone(t *testing.T) {
	r := rand.New(rand.NewPCG(37, 37))
	for _, p := range randomProgs(37, 400) {
		s := loose(r).prog(p)
		l, _ := read.Spots(s.text)
		b := bodies{text: s.text, spots: l}
		head := "source " + strings.Join(p.Srcs, ",") + " "
		for _, d := range p.Defs {
			body := b.take()
			q, _, e := read.Mend(head + body)
			mustBe(t, e == api.OK && equal(q, api.TermProg{Srcs: p.Srcs, Defs: []api.TermDef{d}}), body, q, e)
			b.exp(d.Exp)
		}
		for i, x := range b.all {
			q, f, e := read.Mend(head + "let x = " + b.exps[i])
			mustBe(t, e == api.OK && len(f) == 0 && equal(q, api.TermProg{Srcs: p.Srcs, Defs: []api.TermDef{let("x", x)}}), b.exps[i], q, e)
		}
		for i, c := range b.terms {
			q, f, e := read.Mend("let x = a where " + b.calcs[i])
			mustBe(t, e == api.OK && len(f) == 0 && equal(q, prog("", let("x", with(kids(api.TermWhere, 0, ref("a")), c)))), b.calcs[i], q, e)
		}
	}
}

// P3.4: brackets around a node do not count, but for the one whose Kid or Calc it is.
func TestSpotBrackets(t *testing.T) {
	for text, want := range map[string][]string{
		"source a":                                    nil,
		"source a let x = ( (a) ) % b":                {"let x = ( (a) )", "a"},
		"source a let x = ((a)once)":                  {"let x = ((a)once)", "(a)once", "a"},
		"source a let x = (a)and((a)) and a":          {"let x = (a)and((a)) and a", "(a)and((a)) and a", "(a)and((a))", "a", "a", "a"},
		"source a let x = a where((1)*(val))":         {"let x = a where((1)*(val))", "a where((1)*(val))", "a", "(1)*(val)", "1", "val"},
		"source a let x = a pair((a))within 3 as(1)":  {"let x = a pair((a))within 3 as(1)", "a pair((a))within 3 as(1)", "a", "a", "1"},
		"source a let x = (a) each(1),(2)less(~3) %":  {"let x = (a) each(1),(2)less(~3)", "(a) each(1),(2)less(~3)", "a", "1", "(2)less(~3)", "2", "~3"},
		"source a let x=a let y=prev\n5%\nx shift ~2": {"let x=a", "a", "let y=prev\n5%\nx shift ~2", "prev\n5%\nx shift ~2", "prev\n5%\nx"},
	} {
		l, e := read.Spots(text)
		mustBe(t, e == api.OK && len(l) == len(want), text, l, e)
		for i, s := range want {
			mustBe(t, i < len(l) && text[l[i].From:l[i].To] == s, text, i, s)
		}
	}
}

// noProgram holds what Parse and Spots say of a text that has no program.
func noProgram(t *testing.T, text string, want api.Errno) {
	t.Helper()
	p, e := read.Parse(text)
	mustBe(t, e == want && equal(p, api.TermProg{}), text, p, e)
	l, e := read.Spots(text)
	mustBe(t, e == want && len(l) == 0, text, l, e)
}

// P3.4: which errors there are, and which comes first.
func TestParseErrors(t *testing.T) {
	long := strings.Repeat(" ", 20000)
	for _, text := range []string{long + " ", "source a" + long, "?" + long} {
		noProgram(t, text, api.ErrLong)
	}
	for _, text := range []string{"", "?", "source", "source a ?", "source a let x = 07", "source a let", "let x = a", "source a, let x = b", "source a let x = b let y", "source x x", long,
		"source a let x = a where 1 less 2 same 3", "source a let x = a each 1", "source a let x = a lack a once within 3", "source a let x = a pair prev 3 within 3 as 1", "source at"} {
		noProgram(t, text, api.ErrText)
	}
	for _, text := range []string{
		"source a, a", "source a, b, c, d, e", "source a let a = a", "source a let x = a let x = a", "source a let x = b", "source a let x = x", "source a let x = y let y = a",
		"source a let x = prev 1 a", "source a let x = prev 0 x", "source a let x = prev 51 x", "source a let x = prev ~1 x", "source a let x = a shift 51", "source a let x = a shift ~51",
		"source a let x = a group 0 by sum", "source a let x = a group 51 by sum", "source a let x = a slide ~1 by sum", "source a let x = a rest 0 by sum", "source a let x = a pair a within 51 as 1", "source a let x = a lack a within ~1",
		"source a let x = a where other", "source a let x = a where 1000000001", "source a let x = a where ~1000000001", "source a let x = a where 9999999999", "source a let x = a shift 9999999999",
		"source a let x = a lack prev 1 x within 3", "source a let x = prev 1 x shift ~1",
		"source a let x = a" + strings.Repeat(" once", 10), "source a let x = a" + strings.Repeat(" and a", 30), "source a let x = a where 1" + strings.Repeat(" + 1", 10),
		"source a let b = a let c = a let d = a let e = a let f = a let g = a let h = a", "source a let x = a" + strings.Repeat(" once", 3990), "source a let x = a where 1" + strings.Repeat("+1", 9000),
	} {
		noProgram(t, text, api.ErrArg)
	}
	for _, text := range []string{"source a let x = a" + strings.Repeat(" once", 9), "source a let x = a where 1" + strings.Repeat(" + 1", 9), "source a let x = " + strings.Repeat("(", 9000) + "a" + strings.Repeat(")", 9000), "source a" + long[8:], "source a, b, c, d"} {
		p, e := read.Parse(text)
		mustBe(t, e == api.OK && term.Check(p) == api.OK, text, e)
		l, e := read.Spots(text)
		mustBe(t, e == api.OK && len(l) == nodes(p), text, e)
	}
}
