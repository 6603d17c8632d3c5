package lag_test

import (
	"cmp"
	"math"
	"math/rand/v2"
	"slices"
	"testing"

	"afterword/api"
	"afterword/lag"
	"afterword/read"
	"afterword/term"
)

// off is the lag of what does not matter, on that of what matters for a while, ever that of what matters from the beginning.
var off = api.Lag{}

func on(back, ahead int) api.Lag { return api.Lag{On: true, Back: back, Ahead: ahead} }

func ever(ahead int) api.Lag { return api.Lag{On: true, Ever: true, Ahead: ahead} }

func event(src, id, at, key, val int) api.Event {
	return api.Event{Src: src, Id: id, Rec: api.Rec{At: at, Key: key, Val: val}}
}

func num(n int) api.Calc { return api.Calc{Op: api.CalcInt, N: n} }

func mustBe(t *testing.T, ok bool, l ...any) {
	t.Helper()
	if !ok {
		t.Error(l...)
	}
}

func pick[T any](r *rand.Rand, l []T) T { return l[r.IntN(len(l))] }

// prog is the program of a text.
func prog(t *testing.T, text string) api.TermProg {
	t.Helper()
	p, e := read.Parse(text)
	if e != api.OK {
		t.Fatal(text, e)
	}
	return p
}

// example is the P of layer 2.
func example(t *testing.T) api.TermProg {
	return prog(t, "source x, y let a = x once let b = a slide 5 by sum and prev 3 b let c = a lack y within 2")
}

// lags are those of a program that is formed.
func lags(t *testing.T, p api.TermProg) [][]api.Lag {
	t.Helper()
	out, e := lag.Of(p)
	if e != api.OK || len(out) != len(p.Defs) {
		t.Fatal(p, out, e)
	}
	return out
}

func equalLags(a, b [][]api.Lag) bool { return slices.EqualFunc(a, b, slices.Equal) }

// preorder are the nodes of an expression.
func preorder(x api.TermExp) []api.TermExp {
	out := []api.TermExp{x}
	for _, kid := range x.Kids {
		out = append(out, preorder(kid)...)
	}
	return out
}

// badProgs are not formed.
func badProgs(t *testing.T) []api.TermProg {
	p := example(t)
	loop := []api.TermExp{{Op: api.TermSrc, Name: "x"}}
	loop[0] = api.TermExp{Op: api.TermOnce, Kids: loop}
	ahead := prog(t, "source x let a = x lack prev 1 b within 3 let b = x")
	ahead.Defs[1].Exp = ahead.Defs[0].Exp
	ring := prog(t, "source x let a = x let b = prev 1 a")
	ring.Defs[0].Exp = api.TermExp{Op: api.TermRef, Name: "b"}
	return []api.TermProg{
		{}, {Defs: p.Defs}, {Srcs: []string{"x", "x"}}, {Srcs: []string{"x", "y", "z", "u", "v"}}, {Srcs: []string{"x"}, Defs: p.Defs}, ahead, ring,
		{Srcs: []string{"x"}, Defs: []api.TermDef{{Name: "a"}}}, {Srcs: []string{"x"}, Defs: []api.TermDef{{Name: "a", Exp: loop[0]}}},
		{Srcs: []string{"x"}, Defs: []api.TermDef{{Name: "a", Exp: api.TermExp{Op: 99, Name: "x"}}}},
	}
}

// beyond are numbers below 0, and above some greatest one.
func beyond(most int) []int { return []int{-1, most + 1, math.MaxInt, math.MinInt, -most - 1} }

// Random programs.

var spans = []int{0, 1, 1, 2, 3, 4, 5, 7, 10, 30, 49, 50}

func anyTerm(r *rand.Rand) api.Calc {
	leaf := api.Calc{Op: pick(r, []api.CalcOp{api.CalcAt, api.CalcKey, api.CalcVal, api.CalcVal})}
	op := pick(r, []api.CalcOp{api.CalcVal, api.CalcKey, api.CalcAdd, api.CalcMul, api.CalcLess})
	if op < api.CalcAdd {
		return api.Calc{Op: op}
	}
	return api.Calc{Op: op, Kids: []api.Calc{leaf, num(r.IntN(4))}}
}

// anyExp is formed, but for its length, for an N that is 0, and for rings that look ahead.
func anyExp(r *rand.Rand, p api.TermProg, at, depth int) api.TermExp {
	if depth == 1 || r.IntN(6) == 0 {
		switch {
		case at > 0 && r.IntN(2) == 0:
			return api.TermExp{Op: api.TermRef, Name: p.Defs[r.IntN(at)].Name}
		case r.IntN(3) == 0:
			return api.TermExp{Op: api.TermPrev, N: pick(r, spans), Name: pick(r, p.Defs).Name}
		}
		return api.TermExp{Op: api.TermSrc, Name: pick(r, p.Srcs)}
	}
	x := api.TermExp{Op: api.TermBoth + api.TermOp(r.IntN(int(api.TermOnce-api.TermBoth)+1))}
	terms, kids, ns := 0, 1, false
	switch x.Op {
	case api.TermBoth:
		kids = 2
	case api.TermWhere:
		terms = 1
	case api.TermEach:
		terms = 2
	case api.TermShift:
		ns = true
	case api.TermGroup, api.TermSlide, api.TermRest:
		x.Fold, ns = api.TermFold(1+r.IntN(4)), true
	case api.TermTotal:
		x.Fold = api.TermFold(1 + r.IntN(4))
	case api.TermPair, api.TermAsof:
		terms, kids, ns = 1, 2, x.Op == api.TermPair
	case api.TermLack:
		kids, ns = 2, true
	}
	if ns {
		x.N = pick(r, spans)
	}
	if x.Op == api.TermShift && r.IntN(2) == 0 {
		x.N = -x.N
	}
	for range terms {
		x.Calcs = append(x.Calcs, anyTerm(r))
	}
	for range kids {
		x.Kids = append(x.Kids, anyExp(r, p, at, depth-1))
	}
	return x
}

// anyProg is formed, with some definitions at most.
func anyProg(r *rand.Rand, defs int) api.TermProg {
	for {
		p := api.TermProg{Srcs: []string{"x", "y", "z", "u"}[:1+r.IntN(4)]}
		for _, name := range []string{"a", "b", "c", "d", "e", "f"}[:1+r.IntN(defs)] {
			p.Defs = append(p.Defs, api.TermDef{Name: name})
		}
		for i := range p.Defs {
			p.Defs[i].Exp = anyExp(r, p, i, 1+r.IntN(4))
		}
		if term.Check(p) == api.OK {
			return p
		}
	}
}

// anyRing is a program in which just some definition is in a ring.
func anyRing(r *rand.Rand, defs int) api.TermProg {
	for {
		p := anyProg(r, defs)
		if rings, e := term.Rings(p); e == api.OK && len(rings) > 0 {
			return p
		}
	}
}

// anyMarks are some for each source; many are at the ends of time.
func anyMarks(r *rand.Rand, srcs int) []int {
	var out []int
	for range srcs {
		out = append(out, pick(r, []int{0, 1, r.IntN(202), r.IntN(202), r.IntN(202), 199, 200, 201}))
	}
	return out
}

// inOrder are events in right order.
func inOrder(l []api.Event) []api.Event {
	slices.SortFunc(l, func(a, b api.Event) int {
		return cmp.Or(a.Rec.At-b.Rec.At, a.Src-b.Src, a.Id-b.Id)
	})
	return l
}
