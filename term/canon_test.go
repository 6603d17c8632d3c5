package term_test

import (
	"math/rand/v2"
	"slices"
	"strings"
	"testing"

	"afterword/api"
	"afterword/term"
)

// renamed has other names, all at once.
func renamed(p api.TermProg, names map[string]string) api.TermProg {
	p = full(p)
	for i := range p.Srcs {
		p.Srcs[i] = names[p.Srcs[i]]
	}
	var rename func(x *api.TermExp)
	rename = func(x *api.TermExp) {
		if x.Name != "" {
			x.Name = names[x.Name]
		}
		for i := range x.Kids {
			rename(&x.Kids[i])
		}
	}
	for i := range p.Defs {
		p.Defs[i].Name = names[p.Defs[i].Name]
		rename(&p.Defs[i].Exp)
	}
	return p
}

func namesOf(p api.TermProg) []string {
	out := slices.Clone(p.Srcs)
	for _, d := range p.Defs {
		out = append(out, d.Name)
	}
	return out
}

// byNew tells for each name of a program the new one.
func byNew(p api.TermProg, l []string) map[string]string {
	out := map[string]string{}
	for i, s := range namesOf(p) {
		out[s] = l[i]
	}
	return out
}

func canonIs(t *testing.T, p, want api.TermProg) {
	t.Helper()
	before := full(p)
	q, e := term.Canon(p)
	if !equal(q, want) || e != api.OK {
		t.Error(p, q, e, want)
	}
	if !equal(p, before) || shares([]any{p}, []any{q}) {
		t.Error("changed or shared", p)
	}
}

func alikeIs(t *testing.T, p, q api.TermProg, want bool) {
	t.Helper()
	for range 2 {
		if is, e := term.Alike(p, q); is != want || e != api.OK {
			t.Error(p, q, is, e)
		}
		p, q = q, p
	}
}

// P2.5: the chapter's example.
func TestCanonExample(t *testing.T) {
	canonIs(t, example(), prog("a b",
		let("c", once(src("a"))),
		let("d", both(slide(5, api.FoldSum, ref("c")), prev(3, "d"))),
		let("e", lack(2, ref("c"), src("b")))))
}

// P2.5: the most names there can be, and names that change places.
func TestCanonNames(t *testing.T) {
	canonIs(t, prog("x"), prog("a"))
	canonIs(t, prog("b a", let("d", both(src("a"), src("b"))), let("c", ref("d"))),
		prog("a b", let("c", both(src("b"), src("a"))), let("d", ref("c"))))
	canonIs(t, prog("h i j k", let("g", prev(1, "a")), let("f", ref("g")), let("e", src("h")), let("d", ref("e")), let("c", src("k")), let("a", src("i"))),
		prog("a b c d", let("e", prev(1, "j")), let("f", ref("e")), let("g", src("a")), let("h", ref("g")), let("i", src("d")), let("j", src("b"))))
}

// P2.5: a program is alike to its canonical one, which has the same rings and number of nodes, and is its own canonical one; with other names it stays alike.
func TestRandomCanon(t *testing.T) {
	r := rand.New(rand.NewPCG(25, 25))
	letters := strings.Split("abcdefghij", "")
	l := slices.Clone(pool)
	for _, p := range formedProgs(t, 25, 1500) {
		want := renamed(p, byNew(p, letters))
		canonIs(t, p, want)
		canonIs(t, want, want)
		alikeIs(t, p, want, true)
		rings, _ := term.Rings(p)
		same, _ := term.Rings(want)
		n, _ := term.Nodes(p)
		m, _ := term.Nodes(want)
		if !slices.EqualFunc(rings, same, slices.Equal) || n != m {
			t.Error(p, rings, same, n, m)
		}
		r.Shuffle(len(l), func(i, j int) { l[i], l[j] = l[j], l[i] })
		other := renamed(p, byNew(p, l))
		canonIs(t, other, want)
		alikeIs(t, p, other, true)
	}
}

// P2.5: whatever one part is changed, the program is another one, unless only names differ.
func TestRandomAlike(t *testing.T) {
	r := rand.New(rand.NewPCG(26, 26))
	letters := strings.Split("abcdefghij", "")
	count := map[bool]int{}
	for _, p := range formedProgs(t, 26, 1500) {
		if expNodes(p) == 0 {
			continue
		}
		for range 8 {
			q := change(p, r.IntN(expNodes(p)), func(x *api.TermExp) { spoil(r, x) })
			if !isFormed(q) {
				continue
			}
			want := equal(renamed(p, byNew(p, letters)), renamed(q, byNew(q, letters)))
			alikeIs(t, p, q, want)
			count[want]++
		}
	}
	if count[true] < 300 || count[false] < 300 {
		t.Error(count)
	}
}

// P2.5: programs that differ in one place each.
func TestNotAlike(t *testing.T) {
	calc := func(n int) api.Calc {
		return two(api.CalcAdd, two(api.CalcMul, leaf(api.CalcVal), num(n)), leaf(api.CalcKey))
	}
	l := []api.TermProg{
		prog("x"), prog("x y"),
		prog("x y", let("a", src("x"))),
		prog("x y", let("a", src("y"))),
		prog("x", let("a", src("x"))),
		prog("x", let("a", src("x")), let("b", src("x"))),
		prog("x", let("a", src("x")), let("b", ref("a"))),
		prog("x", let("a", src("x")), let("b", prev(1, "a"))),
		prog("x", let("a", src("x")), let("b", prev(2, "a"))),
		prog("x", let("a", src("x")), let("b", prev(2, "b"))),
		prog("x", let("a", src("x")), let("b", once(ref("a")))),
		prog("x", let("a", once(src("x"))), let("b", src("x"))),
		prog("x", let("a", slide(5, api.FoldSum, src("x")))),
		prog("x", let("a", slide(5, api.FoldCount, src("x")))),
		prog("x", let("a", slide(6, api.FoldSum, src("x")))),
		prog("x", let("a", api.TermExp{Op: api.TermGroup, N: 5, Fold: api.FoldSum, Kids: []api.TermExp{src("x")}})),
		prog("x", let("a", where(calc(1), src("x")))),
		prog("x", let("a", where(calc(2), src("x")))),
		prog("x", let("a", where(two(api.CalcSub, calc(1).Kids[0], calc(1).Kids[1]), src("x")))),
		prog("x", let("a", where(two(api.CalcAdd, calc(1).Kids[1], calc(1).Kids[0]), src("x")))),
		prog("x", let("a", where(leaf(api.CalcVal), src("x")))),
		prog("x", let("a", where(leaf(api.CalcKey), src("x")))),
		prog("x", let("a", both(src("x"), once(src("x"))))),
		prog("x", let("a", both(once(src("x")), src("x")))),
	}
	for i, p := range l {
		mustCheck(t, p)
		for j, q := range l {
			if is, e := term.Alike(p, q); is != (i == j) || e != api.OK {
				t.Error(i, j, is, e)
			}
		}
	}
}

// P2.5: nil and empty lists are the same.
func TestAlikeNil(t *testing.T) {
	p := prog("x", let("a", where(num(1), once(src("x")))))
	alikeIs(t, p, full(p), true)
	canonIs(t, full(p), prog("a", let("b", where(num(1), once(src("a"))))))
	alikeIs(t, prog("x"), api.TermProg{Srcs: []string{"y"}, Defs: []api.TermDef{}}, true)
}

// P2.5: which errors there are.
func TestCanonErrors(t *testing.T) {
	for _, p := range badProgs() {
		if q, e := term.Canon(p); !equal(q, api.TermProg{}) || e != api.ErrArg {
			t.Error(q, e)
		}
		for _, pair := range [][2]api.TermProg{{p, example()}, {example(), p}, {p, p}} {
			if is, e := term.Alike(pair[0], pair[1]); is || e != api.ErrArg {
				t.Error(is, e)
			}
		}
	}
}
