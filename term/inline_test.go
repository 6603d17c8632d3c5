package term_test

import (
	"math/rand/v2"
	"slices"
	"testing"

	"afterword/api"
	"afterword/term"
)

// without is a program without a definition, by a change of one node after the other.
func without(p api.TermProg, def int) api.TermProg {
	d := p.Defs[def]
	p = full(p)
	p.Defs = slices.Delete(p.Defs, def, def+1)
	var put func(x *api.TermExp)
	put = func(x *api.TermExp) {
		if x.Op == api.TermRef && x.Name == d.Name {
			*x = fullExps([]api.TermExp{d.Exp})[0]
			return
		}
		for i := range x.Kids {
			put(&x.Kids[i])
		}
	}
	for i := range p.Defs {
		put(&p.Defs[i].Exp)
	}
	return p
}

// inlined is what Inline returns by the chapter.
func inlined(p api.TermProg, def int) (api.TermProg, api.Errno) {
	for _, d := range p.Defs {
		for _, x := range preorder(d.Exp) {
			if x.Op == api.TermPrev && x.Name == p.Defs[def].Name {
				return api.TermProg{}, api.ErrRule
			}
		}
	}
	q := without(p, def)
	if !isFormed(q) {
		return api.TermProg{}, api.ErrLong
	}
	return q, api.OK
}

func inlineIs(t *testing.T, p api.TermProg, def int, want api.TermProg, e api.Errno) {
	t.Helper()
	before := full(p)
	q, f := term.Inline(p, def)
	if !equal(q, want) || f != e {
		t.Error(p, def, q, f, want, e)
	}
	if !equal(p, before) || shares([]any{p}, []any{q}) {
		t.Error("changed or shared", p, def)
	}
}

// P2.4: the chapter's examples.
func TestInlineExamples(t *testing.T) {
	p := example()
	inlineIs(t, p, 0, prog("x y",
		let("b", both(slide(5, api.FoldSum, once(src("x"))), prev(3, "b"))),
		let("c", lack(2, once(src("x")), src("y")))), api.OK)
	inlineIs(t, p, 1, api.TermProg{}, api.ErrRule)
	inlineIs(t, p, 2, prog("x y", p.Defs[0], p.Defs[1]), api.OK)
	keepIs(t, p, []int{2}, prog("x y", p.Defs[0], p.Defs[2]), api.OK)
}

// P2.4: a definition in a ring, one that names others, one that is named often, and the last one.
func TestInline(t *testing.T) {
	inlineIs(t, prog("x", let("a", src("x"))), 0, prog("x"), api.OK)
	ring := prog("x", let("a", prev(2, "c")), let("b", once(ref("a"))), let("c", both(ref("b"), src("x"))))
	inlineIs(t, ring, 1, prog("x", let("a", prev(2, "c")), let("c", both(once(ref("a")), src("x")))), api.OK)
	inlineIs(t, ring, 0, prog("x", let("b", once(prev(2, "c"))), let("c", both(ref("b"), src("x")))), api.OK)
	inlineIs(t, ring, 2, api.TermProg{}, api.ErrRule)
	often := prog("x", let("a", both(src("x"), prev(1, "c"))), let("b", both(ref("a"), both(ref("a"), ref("a")))), let("c", ref("b")))
	a := both(src("x"), prev(1, "c"))
	inlineIs(t, often, 0, prog("x", let("b", both(a, both(a, a))), let("c", ref("b"))), api.OK)
	inlineIs(t, often, 1, prog("x", let("a", a), let("c", both(ref("a"), both(ref("a"), ref("a"))))), api.OK)
}

// P2.4: what comes of it has too many nodes, is too deep, or is a ring that looks ahead.
func TestInlineLong(t *testing.T) {
	for n := 1; n <= 10; n++ {
		x := deepExp(n, src("x"))
		for m := 1; m <= 10; m++ {
			p := prog("x", let("a", x), let("b", deepExp(m, ref("a"))))
			if n+m-1 <= 10 {
				inlineIs(t, p, 0, prog("x", let("b", deepExp(n+m-1, src("x")))), api.OK)
			} else {
				inlineIs(t, p, 0, api.TermProg{}, api.ErrLong)
			}
		}
		for m := 1; m <= 15; m += 2 {
			p := prog("x", let("a", x), let("b", wideExp(m, ref("a"))))
			want, e := prog("x", let("b", wideExp(m, x))), api.OK
			if m+(m+1)/2*(n-1) > 60 || depth(want.Defs[0].Exp) > 10 {
				want, e = api.TermProg{}, api.ErrLong
			}
			inlineIs(t, p, 0, want, e)
		}
	}
	for _, ahead := range []api.TermExp{lack(1, src("x"), src("x")), once(shift(-1, src("x")))} {
		p := prog("x", let("a", ahead), let("b", both(ref("a"), prev(1, "b"))), let("c", ref("a")))
		mustCheck(t, p)
		inlineIs(t, p, 0, api.TermProg{}, api.ErrLong)
		inlineIs(t, p, 2, prog("x", p.Defs[0], p.Defs[1]), api.OK)
	}
}

// P2.4: ErrRule comes ahead of ErrLong, and only TermPrev is what it is about.
func TestInlineRule(t *testing.T) {
	big := wideExp(25, src("x"))
	p := prog("x", let("a", big), let("b", both(ref("a"), both(ref("a"), ref("a")))), let("c", once(prev(1, "a"))))
	inlineIs(t, p, 0, api.TermProg{}, api.ErrRule)
	p.Defs[2].Exp = once(prev(1, "c"))
	inlineIs(t, p, 0, api.TermProg{}, api.ErrLong)
}

// kept is what Keep returns by the chapter.
func kept(p api.TermProg, defs []int) api.TermProg {
	reached := closure(names(p))
	out := api.TermProg{Srcs: p.Srcs}
	for i, d := range p.Defs {
		if slices.ContainsFunc(defs, func(def int) bool { return def == i || reached[def][i] }) {
			out.Defs = append(out.Defs, d)
		}
	}
	return out
}

func keepIs(t *testing.T, p api.TermProg, defs []int, want api.TermProg, e api.Errno) {
	t.Helper()
	before, numbers := full(p), slices.Clone(defs)
	q, f := term.Keep(p, defs)
	if !equal(q, want) || f != e {
		t.Error(p, defs, q, f, want, e)
	}
	if !equal(p, before) || !slices.Equal(defs, numbers) || shares([]any{p, defs}, []any{q}) {
		t.Error("changed or shared", p, defs)
	}
}

// P2.4: numbers in any order, also twice, also none; all sources stay.
func TestKeep(t *testing.T) {
	p := prog("x y z",
		let("a", prev(1, "e")),
		let("b", src("x")),
		let("c", ref("b")),
		let("d", both(ref("b"), src("y"))),
		let("e", both(ref("a"), ref("c"))),
		let("f", lack(1, src("z"), ref("d"))))
	d := p.Defs
	for _, x := range []struct {
		defs []int
		want []api.TermDef
	}{
		{nil, nil}, {[]int{}, nil}, {[]int{1}, d[1:2]}, {[]int{2}, d[1:3]}, {[]int{2, 1, 2, 2}, d[1:3]}, {[]int{0}, []api.TermDef{d[0], d[1], d[2], d[4]}}, {[]int{4}, []api.TermDef{d[0], d[1], d[2], d[4]}}, {[]int{5}, []api.TermDef{d[1], d[3], d[5]}}, {[]int{5, 2}, []api.TermDef{d[1], d[2], d[3], d[5]}}, {[]int{5, 4}, d}, {[]int{5, 4, 3, 2, 1, 0}, d},
	} {
		keepIs(t, p, x.defs, api.TermProg{Srcs: p.Srcs, Defs: x.want}, api.OK)
	}
	keepIs(t, prog("x y"), nil, prog("x y"), api.OK)
}

// P2.4: random programs, each definition, and all sets of definitions; what comes of them is formed.
func TestRandomOthers(t *testing.T) {
	r := rand.New(rand.NewPCG(24, 24))
	count := map[api.Errno]int{}
	for _, p := range formedProgs(t, 24, 1500) {
		for def := range p.Defs {
			want, e := inlined(p, def)
			inlineIs(t, p, def, want, e)
			count[e]++
			if e == api.OK {
				mustCheck(t, want)
			}
		}
		for range 4 {
			var defs []int
			for range r.IntN(5) {
				if len(p.Defs) > 0 {
					defs = append(defs, r.IntN(len(p.Defs)))
				}
			}
			want := kept(p, defs)
			keepIs(t, p, defs, want, api.OK)
			mustCheck(t, want)
		}
	}
	if count[api.OK] < 500 || count[api.ErrRule] < 100 || count[api.ErrLong] < 1 {
		t.Error(count)
	}
}

// P2.4: which errors there are.
func TestOtherErrors(t *testing.T) {
	for _, def := range badNumbers(3) {
		inlineIs(t, example(), def, api.TermProg{}, api.ErrArg)
		for _, defs := range [][]int{{def}, {0, def}, {def, 0}, {0, 1, 2, def, 0}} {
			keepIs(t, example(), defs, api.TermProg{}, api.ErrArg)
		}
	}
	inlineIs(t, prog("x"), 0, api.TermProg{}, api.ErrArg)
	keepIs(t, prog("x"), []int{0}, api.TermProg{}, api.ErrArg)
	for _, p := range badProgs() {
		if q, e := term.Inline(p, 0); !equal(q, api.TermProg{}) || e != api.ErrArg {
			t.Error(q, e)
		}
		for _, defs := range [][]int{nil, {0}, {-1}} {
			if q, e := term.Keep(p, defs); !equal(q, api.TermProg{}) || e != api.ErrArg {
				t.Error(q, e)
			}
		}
	}
}
