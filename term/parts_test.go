package term_test

import (
	"testing"

	"afterword/api"
	"afterword/term"
)

// P2.2: the chapter's example, and its parts.
func TestPartsExample(t *testing.T) {
	p := example()
	if n, e := term.Depth(p, 1); n != 3 || e != api.OK {
		t.Error(n, e)
	}
	for def, want := range [][]api.TermExp{
		{once(src("x")), src("x")},
		{p.Defs[1].Exp, slide(5, api.FoldSum, ref("a")), ref("a"), prev(3, "b")},
		{lack(2, ref("a"), src("y")), ref("a"), src("y")},
	} {
		if l, e := term.Parts(p, def); !equalExps(l, want) || e != api.OK {
			t.Error(def, l, e)
		}
	}
}

// P2.2: terms are no nodes, and make nothing deeper; each node is whole, with its terms.
func TestTermsAreNoNodes(t *testing.T) {
	w := where(deepCalc(7), both(src("x"), once(src("x"))))
	x := asof(leaf(api.CalcOther), w, src("x"))
	p := prog("x", let("a", x))
	if n, e := term.Depth(p, 0); n != 5 || e != api.OK {
		t.Error(n, e)
	}
	want := []api.TermExp{x, w, both(src("x"), once(src("x"))), src("x"), once(src("x")), src("x"), src("x")}
	if l, e := term.Parts(p, 0); !equalExps(l, want) || e != api.OK {
		t.Error(l, e)
	}
}

// P2.2: each depth that there may be.
func TestDepths(t *testing.T) {
	for n := 1; n <= 10; n++ {
		for _, x := range []api.TermExp{deepExp(n, src("x")), deepExp(n, prev(1, "a"))} {
			if d, e := term.Depth(prog("x", let("a", x)), 0); d != n || e != api.OK {
				t.Error(n, d, e)
			}
		}
	}
	for _, x := range []api.TermExp{both(deepExp(6, src("x")), src("x")), both(src("x"), deepExp(6, src("x")))} {
		if d, e := term.Depth(prog("x", let("a", x)), 0); d != 7 || e != api.OK {
			t.Error(d, e)
		}
	}
}

// P2.2: random programs against the definitions.
func TestRandomParts(t *testing.T) {
	for _, p := range formedProgs(t, 22, 800) {
		for def, d := range p.Defs {
			if n, e := term.Depth(p, def); n != depth(d.Exp) || e != api.OK {
				t.Error(p, def, n, e)
			}
			l, e := term.Parts(p, def)
			if !equalExps(l, preorder(d.Exp)) || e != api.OK {
				t.Error(p, def, l, e)
			}
			if shares([]any{p}, []any{l}) {
				t.Error("shared", p, def)
			}
		}
	}
}

// P2.2: parts are each one's own: a change of one is none of another one.
func TestPartsOwn(t *testing.T) {
	p := prog("x", let("a", where(two(api.CalcAdd, num(1), num(2)), once(src("x")))))
	l, _ := term.Parts(p, 0)
	l[0].Kids[0].Kids[0].Name = "q"
	l[0].Calcs[0].Kids[0].N = 9
	if l[1].Kids[0].Name != "x" || l[2].Name != "x" || !equal(p, prog("x", let("a", where(two(api.CalcAdd, num(1), num(2)), once(src("x")))))) {
		t.Error(l, p)
	}
}

// P2.2: which errors there are.
func TestPartsErrors(t *testing.T) {
	wrong := func(p api.TermProg, def int) {
		t.Helper()
		if n, e := term.Depth(p, def); n != 0 || e != api.ErrArg {
			t.Error(p, def, n, e)
		}
		if l, e := term.Parts(p, def); len(l) != 0 || e != api.ErrArg {
			t.Error(p, def, l, e)
		}
	}
	for _, def := range badNumbers(3) {
		wrong(example(), def)
	}
	wrong(prog("x"), 0)
	for _, p := range badProgs() {
		wrong(p, 0)
	}
}
