package lag_test

import (
	"math/rand/v2"
	"slices"
	"testing"

	"afterword/api"
	"afterword/lag"
	"afterword/term"
)

// P7.5: the canonical program has the same lags, of all nodes.
func TestCanon(t *testing.T) {
	r := rand.New(rand.NewPCG(76, 7))
	for range 1000 {
		p := anyProg(r, 6)
		c, e := term.Canon(p)
		mustBe(t, e == api.OK && c.Srcs[0] == "a" && p.Srcs[0] == "x", c, e)
		mustBe(t, equalLags(lags(t, c), lags(t, p)), p, c)
		for def, d := range p.Defs {
			for node := range preorder(d.Exp) {
				want, e := lag.Node(p, def, node)
				got, f := lag.Node(c, def, node)
				mustBe(t, slices.Equal(got, want) && e == api.OK && f == api.OK, p, def, node, got, want)
			}
		}
	}
}

// P7.5: a program without a definition has the lags of the others, also in rings.
func TestInline(t *testing.T) {
	r := rand.New(rand.NewPCG(77, 7))
	count, rings := 0, 0
	for i := range 4000 {
		p := anyProg(r, 6)
		if i%2 == 0 {
			p = anyRing(r, 6)
		}
		def := r.IntN(len(p.Defs))
		q, e := term.Inline(p, def)
		if e != api.OK {
			continue
		}
		want := lags(t, p)
		mustBe(t, equalLags(lags(t, q), slices.Delete(want, def, def+1)), p, def, want)
		count++
		if l, _ := term.Rings(p); slices.ContainsFunc(l, func(ring []int) bool { return slices.Contains(ring, def) }) {
			rings++
		}
	}
	mustBe(t, count > 1500 && rings > 30, count, rings)
}

// P7.5: by hand: what is put in place is looked at where it stands.
func TestInlineRows(t *testing.T) {
	p := prog(t, "source x, y let a = x slide 5 by sum let b = a shift ~3 let c = a and y lack b within 2")
	want := [][]api.Lag{{on(5, 0), off}, {on(2, 3), off}, {on(5, 5), on(0, 0)}}
	mustBe(t, equalLags(lags(t, p), want), lags(t, p))
	for def := range p.Defs {
		q, e := term.Inline(p, def)
		mustBe(t, e == api.OK && equalLags(lags(t, q), slices.Concat(want[:def], want[def+1:])), def, q, e)
	}
}
