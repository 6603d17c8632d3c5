package term_test

import (
	"math"
	"math/rand/v2"
	"slices"
	"strings"
	"testing"

	"afterword/api"
	"afterword/term"
)

// holds a program against what is said of it.
func checkIs(t *testing.T, p api.TermProg, formed bool, nodes int) {
	t.Helper()
	want := api.ErrArg
	if formed {
		want = api.OK
	} else {
		nodes = 0
	}
	if e := term.Check(p); e != want {
		t.Error(p, e, want)
	}
	if n, e := term.Nodes(p); n != nodes || e != want {
		t.Error(p, n, e, nodes, want)
	}
}

// P2.1: the chapter's example.
func TestNodesExample(t *testing.T) { checkIs(t, example(), true, 9) }

// P2.1: each kind with all that it may have, or not.
func TestEachKind(t *testing.T) {
	calcs := []api.Calc{leaf(api.CalcVal), num(1), num(2)}
	kids := []api.TermExp{src("x"), prev(1, "d"), src("y")}
	for op := api.TermOp(-1); op <= api.TermOnce+2; op++ {
		for _, name := range []string{"", "x", "y", "b", "c", "d", "e", "B", "at"} {
			for _, n := range []int{math.MinInt, -51, -50, -1, 0, 1, 2, 49, 50, 51, math.MaxInt} {
				for fold := api.TermFold(-1); fold <= api.FoldGreat+1; fold++ {
					for i := range 16 {
						x := api.TermExp{Op: op, Name: name, N: n, Fold: fold, Calcs: calcs[:i%4], Kids: kids[:i/4]}
						p := prog("x y", let("b", src("x")), let("c", x), let("d", src("y")))
						if e := term.Check(p); (e == api.OK) != isFormed(p) || e != api.OK && e != api.ErrArg {
							t.Fatal(op, name, n, fold, i, e)
						}
					}
				}
			}
		}
	}
}

// P2.1: a name is said of what stands ahead, or of any one.
func TestNamed(t *testing.T) {
	for _, x := range []struct {
		x      api.TermExp
		formed bool
	}{
		{ref("a"), true}, {ref("b"), false}, {ref("c"), false}, {ref("x"), false}, {ref(""), false}, {ref("q"), false},
		{prev(1, "a"), true}, {prev(1, "b"), true}, {prev(1, "c"), true}, {prev(1, "x"), false}, {prev(1, ""), false}, {prev(1, "q"), false},
		{src("x"), true}, {src("y"), true}, {src("a"), false}, {src("b"), false}, {src(""), false}, {src("q"), false},
	} {
		checkIs(t, prog("x y", let("a", src("x")), let("b", x.x), let("c", src("x"))), x.formed, 3)
		checkIs(t, prog("x y", let("a", src("x")), let("b", once(once(x.x))), let("c", src("x"))), x.formed, 5)
	}
}

// P2.1: terms, in each kind that has some.
func TestTerms(t *testing.T) {
	hosts := []func(c api.Calc) api.TermExp{
		func(c api.Calc) api.TermExp { return where(c, src("x")) },
		func(c api.Calc) api.TermExp {
			return api.TermExp{Op: api.TermEach, Calcs: []api.Calc{c, num(0)}, Kids: []api.TermExp{src("x")}}
		},
		func(c api.Calc) api.TermExp {
			return api.TermExp{Op: api.TermEach, Calcs: []api.Calc{num(0), c}, Kids: []api.TermExp{src("x")}}
		},
		func(c api.Calc) api.TermExp {
			return api.TermExp{Op: api.TermPair, Calcs: []api.Calc{c}, Kids: []api.TermExp{src("x"), src("x")}}
		},
		func(c api.Calc) api.TermExp { return asof(c, src("x"), src("x")) },
	}
	kids := []api.Calc{num(1), leaf(api.CalcOther), num(3)}
	for i, host := range hosts {
		for op := api.CalcOp(-1); op <= api.CalcSame+2; op++ {
			for _, n := range []int{math.MinInt, -1000000001, -1000000000, -1, 0, 1, 1000000000, 1000000001, math.MaxInt} {
				for some := range 4 {
					c := api.Calc{Op: op, N: n, Kids: kids[:some]}
					for _, c := range []api.Calc{c, two(api.CalcSub, num(1), c), two(api.CalcLess, c, num(1))} {
						p := prog("x", let("a", host(c)))
						checkIs(t, p, isFormed(p), nodes(p))
					}
				}
			}
		}
		if e := term.Check(prog("x", let("a", host(leaf(api.CalcOther))))); (e == api.OK) != (i >= 3) {
			t.Error(i, e)
		}
	}
}

// P2.1: depths of expressions and of terms, each one by itself.
func TestDeepest(t *testing.T) {
	for n := 1; n <= 13; n++ {
		checkIs(t, prog("x", let("a", deepExp(n, src("x")))), n <= 10, n)
		checkIs(t, prog("x", let("a", src("x")), let("b", both(src("x"), deepExp(n, src("x"))))), n+1 <= 10, n+3)
		checkIs(t, prog("x", let("a", where(deepCalc(n), src("x")))), n <= 10, 2+2*n-1)
		checkIs(t, prog("x", let("a", deepExp(9, where(deepCalc(n), src("x"))))), n <= 10, 10+2*n-1)
		checkIs(t, prog("x", let("a", where(two(api.CalcMul, deepCalc(n), num(0)), src("x")))), n+1 <= 10, 2+2*n+1)
	}
}

// P2.1: nodes of all definitions and of all terms count together.
func TestMostNodes(t *testing.T) {
	for n := 1; n <= 71; n += 2 {
		x := wideExp(n, src("x"))
		checkIs(t, prog("x", let("a", x)), n <= 60, n)
		checkIs(t, prog("x", let("a", x), let("b", src("x"))), n+1 <= 60, n+1)
		checkIs(t, prog("x", let("a", src("x")), let("b", src("x")), let("c", x)), n+2 <= 60, n+2)
		checkIs(t, prog("x", let("a", where(num(1), x))), n+2 <= 60, n+2)
		checkIs(t, prog("x", let("a", where(num(1), x)), let("b", ref("a"))), n+3 <= 60, n+3)
		checkIs(t, prog("x", let("a", where(deepCalc(5), once(x)))), n+11 <= 60, n+11)
	}
}

// P2.1: how many sources and definitions there may be.
func TestHowMany(t *testing.T) {
	names := strings.Split("abcdefghijklmnopqrstuvwxyz", "")
	for n := range 7 {
		for m := range 9 {
			p := api.TermProg{Srcs: names[:n]}
			for _, s := range names[n : n+m] {
				p.Defs = append(p.Defs, let(s, prev(1, s)))
			}
			checkIs(t, p, 1 <= n && n <= 4 && m <= 6, m)
		}
	}
}

// P2.1: names of sources and of definitions are names, and different ones.
func TestNamesOfProgram(t *testing.T) {
	for _, s := range []string{"", "at", "within", "abcdefghi", "X", "x1", "x y", "\u00e4"} {
		checkIs(t, prog("x", let(s, src("x"))), false, 0)
		checkIs(t, api.TermProg{Srcs: []string{"x", s}}, false, 0)
		checkIs(t, api.TermProg{Srcs: []string{s}, Defs: []api.TermDef{let("a", src(s))}}, false, 0)
	}
	checkIs(t, prog("x y x"), false, 0)
	checkIs(t, prog("x", let("a", src("x")), let("b", src("x")), let("a", src("x"))), false, 0)
	checkIs(t, prog("x y", let("a", src("x")), let("y", src("x"))), false, 0)
	checkIs(t, prog("abcdefgh", let("abcdefg", src("abcdefgh"))), true, 1)
	checkIs(t, prog("x"), true, 0)
}

// P2.1: no definition of a ring looks ahead; one that only reaches a ring, or is reached by one, may.
func TestRingsLookBack(t *testing.T) {
	for _, look := range []struct {
		put    func(x api.TermExp) api.TermExp
		inRing bool
	}{
		{func(x api.TermExp) api.TermExp { return lack(0, x, src("x")) }, false},
		{func(x api.TermExp) api.TermExp { return lack(5, src("x"), x) }, false},
		{func(x api.TermExp) api.TermExp { return both(x, lack(5, src("x"), src("x"))) }, false},
		{func(x api.TermExp) api.TermExp { return shift(-1, x) }, false},
		{func(x api.TermExp) api.TermExp { return both(once(shift(-50, src("x"))), x) }, false},
		{func(x api.TermExp) api.TermExp { return shift(0, x) }, true},
		{func(x api.TermExp) api.TermExp { return shift(50, x) }, true},
	} {
		p := prog("x", let("a", look.put(prev(1, "a"))))
		checkIs(t, p, look.inRing, nodes(p))
		for i := range 5 { // a is reached by the ring of b, c and d; e reaches it
			l := []api.TermExp{src("x"), both(ref("a"), prev(50, "d")), ref("b"), ref("c"), once(ref("d"))}
			l[i] = look.put(l[i])
			p := prog("x", let("a", l[0]), let("b", l[1]), let("c", l[2]), let("d", l[3]), let("e", l[4]))
			checkIs(t, p, look.inRing || i == 0 || i == 4, nodes(p))
		}
	}
}

// P2.1: programs that are not formed, some with lists that have themselves in them.
func TestNotFormed(t *testing.T) {
	for _, p := range badProgs() {
		checkIs(t, p, false, 0)
	}
}

// P2.1: random programs, and what becomes of them by one change.
func TestRandomPrograms(t *testing.T) {
	r := rand.New(rand.NewPCG(1, 1))
	count := [2]int{}
	for range 40000 {
		p := randomProg(r)
		if n := expNodes(p); n > 0 && r.IntN(2) == 0 {
			p = change(p, r.IntN(n), func(x *api.TermExp) { spoil(r, x) })
		}
		formed := isFormed(p)
		checkIs(t, p, formed, nodes(p))
		if formed {
			count[1]++
		} else {
			count[0]++
		}
	}
	if count[0] < 2000 || count[1] < 2000 {
		t.Error(count)
	}
}

// spoil changes one part of a node.
func spoil(r *rand.Rand, x *api.TermExp) {
	switch r.IntN(6) {
	case 0:
		x.Op = api.TermOp(r.IntN(18))
	case 1:
		x.Name = pool[r.IntN(len(pool))]
	case 2:
		x.N = r.IntN(103) - 51
	case 3:
		x.Fold = api.TermFold(r.IntN(6))
	case 4:
		x.Calcs = append(slices.Clone(x.Calcs), randomCalc(r, 2, r.IntN(2) == 0))[r.IntN(2):]
	case 5:
		x.Kids = slices.Clone(x.Kids)[:r.IntN(len(x.Kids)+1)]
	}
}
