package read_test

import (
	"math/rand/v2"
	"slices"
	"strings"
	"testing"

	"afterword/api"
	"afterword/read"
)

func printIs(t *testing.T, p api.TermProg, want string) {
	t.Helper()
	s, e := read.Print(p)
	mustBe(t, e == api.OK && s == want, s, e, want)
}

// P3.5: the chapter's examples.
func TestPrintExamples(t *testing.T) {
	p, e := read.Parse(exampleText)
	mustBe(t, e == api.OK, e)
	printIs(t, p, "source buy, pay let big = buy where val * 2 less 9 and pay let sums = (big and prev 5 sums) group 10 by sum let met = buy pair pay within 3 as val - other")
	a, b := src("a"), src("b")
	printIs(t, prog("a b", let("x", with(kids(api.TermWhere, 0, both(a, b)), leaf(api.CalcVal)))), "source a, b let x = (a and b) where val")
	printIs(t, prog("a b", let("x", with(kids(api.TermPair, 3, a, once(b)), two(api.CalcMul, two(api.CalcAdd, num(1), num(2)), leaf(api.CalcVal))))),
		"source a, b let x = a pair (b once) within 3 as (1 + 2) * val")
	printIs(t, prog("a b", let("x", both(a, both(a, b)))), "source a, b let x = a and (a and b)")
	printIs(t, prog("a"), "source a")
}

// P3.5: where blanks are, and how integers are written.
func TestPrintBlanks(t *testing.T) {
	a, val := src("a"), leaf(api.CalcVal)
	sub := two(api.CalcSub, num(-1), two(api.CalcSub, num(-1000000000), val))
	less := two(api.CalcLess, two(api.CalcSame, val, sub), num(0))
	printIs(t, prog("a zz", let("x", kids(api.TermShift, -50, with(kids(api.TermEach, 0, a), less, less)))),
		"source a, zz let x = a each (val same ~1 - (~1000000000 - val)) less 0, (val same ~1 - (~1000000000 - val)) less 0 shift ~50")
	x := prog("a", let("x", kids(api.TermLack, 0, once(both(both(a, a), a)), kids(api.TermLack, 50, a, kids(api.TermShift, 0, both(a, both(a, a)))))))
	printIs(t, x, "source a let x = (a and a and a) once lack (a lack ((a and (a and a)) shift 0) within 50) within 0")
	printIs(t, prog("a", let("x", with(kids(api.TermWhere, 0, a), two(api.CalcMul, val, two(api.CalcMul, two(api.CalcMul, val, val), two(api.CalcAdd, val, val)))))),
		"source a let x = a where val * (val * val * (val + val))")
	printIs(t, prog("a", let("x", with(kids(api.TermWhere, 0, a), two(api.CalcLess, val, two(api.CalcSame, val, val))))), "source a let x = a where val less (val same val)")
}

// bare is a text of words, with as few blanks as the chapter asks for.
func bare(words []string) string {
	s := strings.Join(words, " ")
	return strings.NewReplacer("( ", "(", " )", ")", " ,", ",").Replace(s)
}

// pairs are the places of brackets that belong together.
func pairs(words []string) [][2]int {
	var open []int
	var out [][2]int
	for i, w := range words {
		switch w {
		case "(":
			open = append(open, i)
		case ")":
			out = append(out, [2]int{open[len(open)-1], i})
			open = open[:len(open)-1]
		}
	}
	return out
}

func without(words []string, pair [2]int) []string {
	l := slices.Delete(slices.Clone(words), pair[1], pair[1]+1)
	return slices.Delete(l, pair[0], pair[0]+1)
}

// bracketed has brackets around each expression and each term.
func bracketed(p api.TermProg) []string {
	s := tight()
	s.extra = func() int { return 1 }
	return words(s.prog(p).all)
}

// least leaves brackets out, as long as what is left says the same.
func least(p api.TermProg, l []string) []string {
again:
	for {
		for _, pair := range pairs(l) {
			shorter := without(l, pair)
			q, e := read.Parse(strings.Join(shorter, " "))
			if e == api.OK && equal(p, q) {
				l = shorter
				continue again
			}
		}
		return l
	}
}

// P3.5: what is printed has the fewest brackets, is read as what it was, and is something else without a pair of brackets.
func TestRandomPrint(t *testing.T) {
	r := rand.New(rand.NewPCG(38, 38))
	brackets := 0
	for _, p := range randomProgs(38, 500) {
		before := full(p)
		s, e := read.Print(p)
		mustBe(t, e == api.OK && equal(p, before), s, e)
		q, e := read.Parse(s)
		mustBe(t, e == api.OK && equal(p, q), s, q, e)
		l, e := read.Tokens(s)
		mustBe(t, e == api.OK && s == bare(words(l)), s)
		mustBe(t, s == bare(least(p, bracketed(p))), s)
		for _, pair := range pairs(words(l)) {
			q, e := read.Parse(bare(without(words(l), pair)))
			mustBe(t, e != api.OK || !equal(p, q), s, pair)
			brackets++
		}
		other := ""
		for _, w := range words(l) {
			other += pick(r, []string{" ", "\n", "\t ", " % x)\n", "%\n%\n\n"}) + w
		}
		q, e = read.Parse(other + pick(r, []string{"", " ", "% x", "\n"}))
		mustBe(t, e == api.OK && equal(p, q), other, q, e)
	}
	mustBe(t, brackets > 300, brackets)
}

// P3.5: all terms of three operators, as far as their shapes go, and all expressions of three kinds one within another.
func TestAllShapes(t *testing.T) {
	ops := []api.CalcOp{api.CalcAdd, api.CalcSub, api.CalcMul, api.CalcLess, api.CalcSame}
	val := leaf(api.CalcVal)
	hold := func(x api.TermExp) {
		t.Helper()
		p := prog("a", let("x", x))
		s, e := read.Print(p)
		mustBe(t, e == api.OK && s == bare(words(tight().prog(p).all)), s, e)
		q, e := read.Parse(s)
		mustBe(t, e == api.OK && equal(p, q), s, e)
		l, _ := read.Tokens(s)
		for _, pair := range pairs(words(l)) {
			q, e := read.Parse(bare(without(words(l), pair)))
			mustBe(t, e != api.OK || !equal(p, q), s, pair)
		}
	}
	for _, f := range ops {
		for _, g := range ops {
			for _, h := range ops {
				for _, c := range []api.Calc{two(f, two(g, val, num(1)), two(h, num(2), val)), two(f, two(g, two(h, val, num(1)), val), num(2)), two(f, val, two(g, num(1), two(h, num(2), val)))} {
					hold(with(kids(api.TermWhere, 0, src("a")), c))
				}
			}
		}
	}
	wrap := func(w row, l []api.TermExp) api.TermExp {
		x := api.TermExp{Op: w.op, N: max(w.least, 1) * min(w.most, 1), Kids: l[:w.kids:w.kids]}
		if w.fold {
			x.Fold = api.FoldGreat
		}
		for range w.calcs {
			x.Calcs = append(x.Calcs, two(api.CalcLess, val, num(-3)))
		}
		return x
	}
	for _, v := range rows {
		for _, w := range rows {
			inner := wrap(w, []api.TermExp{src("a"), prev(9, "x")})
			if w.op == api.TermLack || v.op == api.TermLack {
				inner = wrap(w, []api.TermExp{src("a"), src("a")})
			}
			hold(wrap(v, []api.TermExp{inner, src("a")}))
			hold(wrap(v, []api.TermExp{src("a"), inner}))
			hold(wrap(v, []api.TermExp{inner, inner}))
		}
	}
}

// P3.5: which errors there are.
func TestPrintErrors(t *testing.T) {
	loop := []api.TermExp{once(src("a"))}
	loop[0].Kids = loop
	for _, p := range []api.TermProg{
		{}, prog(""), prog("at"), prog("a a"), prog("a b c d e"), prog("A"), prog("a", let("a", src("a"))), prog("a", let("x", api.TermExp{})), prog("a", let("x", ref("x"))),
		prog("a", let("x", prev(0, "x"))), prog("a", let("x", kids(api.TermShift, 51, src("a")))), prog("a", let("x", kids(api.TermTotal, 0, src("a")))), prog("a", let("x", once(loop[0]))),
		prog("a", let("x", with(kids(api.TermWhere, 0, src("a")), leaf(api.CalcOther)))), prog("a", let("x", with(kids(api.TermWhere, 0, src("a")), num(1000000001)))),
		prog("a", let("x", kids(api.TermLack, 1, src("a"), prev(1, "x")))), prog("a", let("x", api.TermExp{Op: 99})), prog("a", let("x", folded(once(src("a")), api.FoldSum))),
	} {
		s, e := read.Print(p)
		mustBe(t, s == "" && e == api.ErrArg, s, e)
	}
}
