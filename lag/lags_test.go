package lag_test

import (
	"math/rand/v2"
	"slices"
	"testing"

	"afterword/api"
	"afterword/lag"
)

// P7.1: the example.
func TestExample(t *testing.T) {
	p := example(t)
	want := [][]api.Lag{{on(0, 0), off}, {ever(0), off}, {on(0, 0), on(2, 2)}}
	got := lags(t, p)
	mustBe(t, equalLags(got, want), got)
	l, e := lag.Node(p, 2, 0)
	mustBe(t, slices.Equal(l, want[2]) && e == api.OK, l, e)
}

// P7.1: each row of the table, with Kids that look back and ahead, far away from the ends of time too; each N at its ends.
func TestRows(t *testing.T) {
	// About x and y: b is On, Back 7, Ahead -3, and off; d is Ever, Ahead 4, and On, Back -5, Ahead 5.
	const ahead = "source x, y let a = x shift 3 let b = a slide 4 by sum let c = x shift ~4 total by count let d = c and (y shift ~5) let e = "
	for _, c := range []struct {
		text string
		x, y api.Lag
	}{
		{"x", on(0, 0), off}, {"y", off, on(0, 0)}, {"b", on(7, -3), off}, {"d", ever(4), on(-5, 5)},
		{"prev 1 b", on(8, -4), off}, {"prev 50 b", on(57, -53), off}, {"prev 50 d", ever(-46), on(45, -45)},
		{"b and d", ever(4), on(-5, 5)}, {"d and b", ever(4), on(-5, 5)}, {"b and x", on(7, 0), off}, {"x and b", on(7, 0), off}, {"x and y", on(0, 0), on(0, 0)},
		{"b where 0", on(7, -3), off}, {"d where val", ever(4), on(-5, 5)}, {"b each key, val", on(7, -3), off}, {"d once", ever(4), on(-5, 5)}, {"b once", on(7, -3), off},
		{"b shift 2", on(9, -5), off}, {"b shift 50", on(57, -53), off}, {"b shift 0", on(7, -3), off}, {"b shift ~50", on(-43, 47), off}, {"d shift ~6", ever(10), on(-11, 11)}, {"d shift 6", ever(-2), on(1, -1)},
		{"b group 1 by sum", on(7, -3), off}, {"b group 50 by sum", on(56, -3), off}, {"d group 6 by least", ever(4), on(0, 5)},
		{"b slide 0 by sum", on(7, -3), off}, {"b slide 50 by great", on(57, -3), off}, {"d slide 6 by sum", ever(4), on(1, 5)},
		{"b total by sum", ever(-3), off}, {"d total by count", ever(4), ever(5)}, {"b rest 1 by sum", ever(-3), off}, {"d rest 50 by sum", ever(4), ever(5)},
		{"b pair d within 0 as 0", ever(4), on(-5, 5)}, {"b pair x within 6 as 0", on(13, 0), off}, {"x pair b within 6 as 0", on(13, 0), off}, {"b pair b within 50 as other", on(57, -3), off}, {"d pair y within 3 as 0", ever(4), on(3, 5)},
		{"b at d as 0", ever(4), ever(5)}, {"d at b as 0", ever(4), on(-5, 5)}, {"x at y as other", on(0, 0), ever(0)}, {"b at x as val", ever(0), off}, {"x at b as val", ever(0), off}, {"y at b as val", ever(-3), on(0, 0)},
		{"b lack d within 6", ever(10), on(1, 11)}, {"d lack b within 6", ever(4), on(-5, 5)}, {"x lack b within 6", on(13, 3), off}, {"b lack x within 0", on(7, 0), off}, {"b lack y within 50", on(7, -3), on(50, 50)}, {"y lack y within 50", off, on(50, 50)}, {"x lack d within 50", ever(54), on(45, 55)},
		{"b where 0 and (x where 0)", on(7, 0), off},
	} {
		p := prog(t, ahead+c.text)
		want := []api.Lag{c.x, c.y}
		got := lags(t, p)[4]
		mustBe(t, slices.Equal(got, want), c.text, got, want)
		l, e := lag.Node(p, 4, 0)
		mustBe(t, slices.Equal(l, want) && e == api.OK, c.text, l, e)
	}
}

// P7.1: rings: off until they must be on, all from the beginning, and no further ahead than some way leads.
func TestRings(t *testing.T) {
	for _, c := range []struct {
		text string
		want [][]api.Lag
	}{
		{"source x let a = prev 1 a", [][]api.Lag{{off}}},
		{"source x let a = prev 1 b let b = a and prev 7 a", [][]api.Lag{{off}, {off}}},
		{"source x let a = x and prev 50 a", [][]api.Lag{{ever(0)}}},
		{"source x let a = prev 3 a and x", [][]api.Lag{{ever(0)}}},
		{"source x let a = x shift 9 and prev 3 a", [][]api.Lag{{ever(-9)}}},
		{"source x let a = x shift ~9 let b = a and prev 3 b", [][]api.Lag{{on(-9, 9)}, {ever(9)}}},
		{"source x let a = x shift ~9 let b = prev 4 c let c = prev 3 b and a let d = b shift ~50", [][]api.Lag{{on(-9, 9)}, {ever(5)}, {ever(9)}, {ever(55)}}},
		{"source x, y let a = prev 2 b and x let b = prev 5 a and y", [][]api.Lag{{ever(0), ever(-2)}, {ever(-5), ever(0)}}},
		{"source x, y let a = prev 2 b let b = a slide 50 by sum and y let c = b lack x within 50", [][]api.Lag{{off, ever(-2)}, {off, ever(0)}, {on(50, 50), ever(0)}}},
		{"source x let a = prev 1 b let b = prev 1 c let c = prev 1 d let d = prev 1 e let e = prev 1 f let f = prev 1 a and x", [][]api.Lag{{ever(-5)}, {ever(-4)}, {ever(-3)}, {ever(-2)}, {ever(-1)}, {ever(0)}}},
		{"source x let a = prev 1 f and x let b = prev 1 a let c = prev 1 b let d = prev 1 c let e = prev 1 d let f = e", [][]api.Lag{{ever(0)}, {ever(-1)}, {ever(-2)}, {ever(-3)}, {ever(-4)}, {ever(-4)}}},
		// A definition that names one of a ring, but is in none, ahead of it and behind it.
		{"source x let a = prev 4 b let b = x and prev 1 b let c = b", [][]api.Lag{{ever(-4)}, {ever(0)}, {ever(0)}}},
		{"source x let a = x let b = a let c = prev 9 b", [][]api.Lag{{on(0, 0)}, {on(0, 0)}, {on(9, -9)}}},
		// Two rings, the second one of which needs the first one.
		{"source x, y let a = prev 1 b let b = prev 1 c and x let c = prev 3 b let d = prev 1 d and y and prev 2 a", [][]api.Lag{{ever(-1), off}, {ever(0), off}, {ever(-3), off}, {ever(-3), ever(0)}}},
	} {
		p := prog(t, c.text)
		got := lags(t, p)
		mustBe(t, equalLags(got, c.want), c.text, got, c.want)
		for def, want := range c.want {
			l, e := lag.Node(p, def, 0)
			mustBe(t, slices.Equal(l, want) && e == api.OK, c.text, def, l, e)
		}
	}
}

// P7.1: nodes are counted as they stand, those of a first Kid ahead of the second one.
func TestNodes(t *testing.T) {
	p := prog(t, "source x, y let a = (x shift 3 slide 4 by sum) lack (y shift ~2) within 5")
	for node, want := range [][]api.Lag{{on(7, -3), on(3, 7)}, {on(7, -3), off}, {on(3, -3), off}, {on(0, 0), off}, {off, on(-2, 2)}, {off, on(0, 0)}} {
		l, e := lag.Node(p, 0, node)
		mustBe(t, slices.Equal(l, want) && e == api.OK, node, l, e)
	}
	ring := prog(t, "source x let a = prev 5 b let b = (x group 5 by sum) and (a slide 5 by sum)")
	for node, want := range []api.Lag{ever(0), on(4, 0), on(0, 0), ever(-5), ever(-5)} {
		l, e := lag.Node(ring, 1, node)
		mustBe(t, slices.Equal(l, []api.Lag{want}) && e == api.OK, node, l, e)
	}
}

// P7.1: random programs, by all ways down to sources.
func TestLagsAny(t *testing.T) {
	r := rand.New(rand.NewPCG(71, 7))
	rings, ops, kinds := 0, map[api.TermOp]int{}, map[string]int{}
	for i := range 4000 {
		p := anyProg(r, 6)
		if i%3 == 0 {
			p = anyRing(r, 6)
			rings++
		}
		o := oracle{p}
		got := lags(t, p)
		mustBe(t, equalLags(got, o.all()), p, got, o.all())
		for def, d := range p.Defs {
			for node, x := range preorder(d.Exp) {
				l, e := lag.Node(p, def, node)
				mustBe(t, slices.Equal(l, o.lags(o.ways(x, nil))) && e == api.OK, p, def, node, l, e)
				ops[x.Op]++
			}
			for _, g := range got[def] {
				kinds[kindOf(g)]++
			}
		}
	}
	for op := api.TermSrc; op <= api.TermOnce; op++ {
		mustBe(t, ops[op] > 500, op, ops[op])
	}
	for _, kind := range []string{"off", "ever", "ever, ahead", "ever, behind", "on", "on, ahead", "on, behind"} {
		mustBe(t, kinds[kind] > 100, kind, kinds)
	}
	mustBe(t, rings > 1000, rings)
}

func kindOf(g api.Lag) string {
	if !g.On {
		return "off"
	}
	out := "on"
	if g.Ever {
		out = "ever"
	}
	switch {
	case g.Ahead > 0:
		out += ", ahead"
	case g.Ahead < 0:
		out += ", behind"
	}
	return out
}

// P7.1: the longest programs that there are still have lags.
func TestLong(t *testing.T) {
	text := "source x let a = x"
	for range 9 {
		text += " shift ~50"
	}
	text += " let b = a lack (a"
	for range 8 {
		text += " shift ~50"
	}
	text += ") within 50 let c = prev 50 b"
	got := lags(t, prog(t, text))
	mustBe(t, equalLags(got, [][]api.Lag{{on(-450, 450)}, {on(-450, 900)}, {on(-400, 850)}}), got)
	mustBe(t, len(lags(t, prog(t, "source x"))) == 0, "no definitions")
}
