package term_test

import (
	"math"
	"slices"
	"testing"

	"afterword/api"
	"afterword/term"
)

// badNumbers are none of a list's elements.
func badNumbers(length int) []int {
	return []int{length, -1, length + 1, -length, math.MaxInt, math.MinInt}
}

func trues(l []bool) []int {
	var out []int
	for i, is := range l {
		if is {
			out = append(out, i)
		}
	}
	return out
}

// ringsOf are all sets that reach each other, by trying all pairs.
func ringsOf(reached [][]bool) [][]int {
	var out [][]int
	for i := range reached {
		var ring []int
		for j := range reached {
			if reached[i][j] && reached[j][i] {
				ring = append(ring, j)
			}
		}
		if ring != nil && !slices.ContainsFunc(out, func(l []int) bool { return slices.Equal(l, ring) }) {
			out = append(out, ring)
		}
	}
	return out
}

// srcsOf are the sources of the TermSrc nodes of some definitions.
func srcsOf(p api.TermProg, defs []int) []int {
	var out []int
	for i, s := range p.Srcs {
		for _, def := range defs {
			has := slices.ContainsFunc(preorder(p.Defs[def].Exp), func(x api.TermExp) bool { return x.Op == api.TermSrc && x.Name == s })
			if has && !slices.Contains(out, i) {
				out = append(out, i)
			}
		}
	}
	return out
}

// holdReach holds what is reached, and the rings, against the definitions.
func holdReach(t *testing.T, p api.TermProg) {
	t.Helper()
	reached := closure(names(p))
	rings, e := term.Rings(p)
	if want := ringsOf(reached); e != api.OK || !slices.EqualFunc(rings, want, slices.Equal) {
		t.Error(p, rings, e, want)
	}
	for def := range p.Defs {
		srcs, defs, e := term.Reach(p, def)
		want := trues(reached[def])
		if e != api.OK || !slices.Equal(defs, want) || !slices.Equal(srcs, srcsOf(p, append(want, def))) {
			t.Error(p, def, srcs, defs, e)
		}
		in := 0 // in a ring just if it reaches itself, in one alone, of which it reaches all
		for _, ring := range rings {
			if slices.Contains(ring, def) {
				in++
				for _, other := range ring {
					if !slices.Contains(defs, other) {
						t.Error(p, def, ring, defs)
					}
				}
			}
		}
		if in > 1 || (in == 1) != slices.Contains(defs, def) {
			t.Error(p, def, in, defs)
		}
	}
}

// P2.3: the chapter's example.
func TestReachExample(t *testing.T) {
	p := example()
	for _, x := range []struct {
		def        int
		srcs, defs []int
	}{
		{0, []int{0}, nil}, {1, []int{0}, []int{0, 1}}, {2, []int{0, 1}, []int{0}},
	} {
		if srcs, defs, e := term.Reach(p, x.def); !slices.Equal(srcs, x.srcs) || !slices.Equal(defs, x.defs) || e != api.OK {
			t.Error(x.def, srcs, defs, e)
		}
	}
	if l, e := term.Rings(p); len(l) != 1 || !slices.Equal(l[0], []int{1}) || e != api.OK {
		t.Error(l, e)
	}
}

// P2.3: two rings, one in the other's way, and a definition between.
func TestTwoRings(t *testing.T) {
	p := prog("x y z",
		let("a", prev(1, "e")),
		let("b", once(src("z"))),
		let("c", both(src("y"), prev(2, "d"))),
		let("d", both(ref("c"), ref("a"))),
		let("e", both(ref("a"), ref("b"))))
	if l, e := term.Rings(p); e != api.OK || !slices.EqualFunc(l, [][]int{{0, 4}, {2, 3}}, slices.Equal) {
		t.Error(l, e)
	}
	for def, want := range [][2][]int{
		{{2}, {0, 1, 4}}, {{2}, nil}, {{1, 2}, {0, 1, 2, 3, 4}}, {{1, 2}, {0, 1, 2, 3, 4}}, {{2}, {0, 1, 4}},
	} {
		if srcs, defs, e := term.Reach(p, def); !slices.Equal(srcs, want[0]) || !slices.Equal(defs, want[1]) || e != api.OK {
			t.Error(def, srcs, defs, e)
		}
	}
}

// P2.3: no ring, no definition, nothing reached.
func TestNoRings(t *testing.T) {
	for _, p := range []api.TermProg{prog("x"), prog("x", let("a", src("x"))), prog("x y", let("a", src("x")), let("b", ref("a")), let("c", prev(1, "b")))} {
		if l, e := term.Rings(p); len(l) != 0 || e != api.OK {
			t.Error(p, l, e)
		}
		holdReach(t, p)
	}
	if srcs, defs, e := term.Reach(prog("x", let("a", prev(1, "a"))), 0); len(srcs) != 0 || !slices.Equal(defs, []int{0}) || e != api.OK {
		t.Error(srcs, defs, e)
	}
}

// P2.3: all ways in which up to three definitions can name each other, and many of those of four.
func TestAllNamings(t *testing.T) {
	l := []string{"d", "c", "b", "a"} // not in the order of letters
	for n, step := range []int{1, 1, 1, 1, 7} {
		for set := 0; set < 1<<(n*n); set += step {
			p := prog("x y")
			for i := range n {
				x := src(p.Srcs[i%2])
				for j := range n {
					switch {
					case set>>(i*n+j)&1 == 0:
					case j < i && (i+j)%2 == 1:
						x = both(ref(l[j]), x)
					default:
						x = both(x, prev(1+j, l[j]))
					}
				}
				p.Defs = append(p.Defs, let(l[i], x))
			}
			holdReach(t, p)
		}
	}
}

// P2.3: random programs.
func TestRandomReach(t *testing.T) {
	rings := 0
	for _, p := range formedProgs(t, 23, 1500) {
		holdReach(t, p)
		for def := range p.Defs {
			srcs, defs, _ := term.Reach(p, def)
			l, _ := term.Rings(p)
			if shares([]any{p}, []any{srcs, defs, l}) {
				t.Error("shared", p, def)
			}
		}
		rings += len(ringsOf(closure(names(p))))
	}
	if rings < 100 {
		t.Error(rings)
	}
}

// P2.3: which errors there are.
func TestReachErrors(t *testing.T) {
	wrong := func(p api.TermProg, def int) {
		t.Helper()
		if srcs, defs, e := term.Reach(p, def); len(srcs) != 0 || len(defs) != 0 || e != api.ErrArg {
			t.Error(p, def, srcs, defs, e)
		}
	}
	for _, def := range badNumbers(3) {
		wrong(example(), def)
	}
	wrong(prog("x"), 0)
	for _, p := range badProgs() {
		wrong(p, 0)
		if l, e := term.Rings(p); len(l) != 0 || e != api.ErrArg {
			t.Error(p, l, e)
		}
	}
}
