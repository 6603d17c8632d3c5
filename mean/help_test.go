package mean_test

import (
	"cmp"
	"math"
	"math/rand/v2"
	"slices"
	"testing"

	"afterword/api"
	"afterword/bag"
	"afterword/mean"
	"afterword/read"
	"afterword/term"
)

func rec(at, key, val int) api.Rec { return api.Rec{At: at, Key: key, Val: val} }

func event(src, id, at, key, val int) api.Event {
	return api.Event{Src: src, Id: id, Rec: rec(at, key, val)}
}

func num(n int) api.Calc { return api.Calc{Op: api.CalcInt, N: n} }

func leaf(op api.CalcOp) api.Calc { return api.Calc{Op: op} }

func two(op api.CalcOp, a, b api.Calc) api.Calc { return api.Calc{Op: op, Kids: []api.Calc{a, b}} }

func mustBe(t *testing.T, ok bool, l ...any) {
	t.Helper()
	if !ok {
		t.Error(l...)
	}
}

func pick[T any](r *rand.Rand, l []T) T { return l[r.IntN(len(l))] }

// prog is the program of a text.
func prog(t *testing.T, text string) api.TermProg {
	t.Helper()
	p, e := read.Parse(text)
	if e != api.OK {
		t.Fatal(text, e)
	}
	return p
}

// of is the bag of a text: At, Key, Val, N.
func of(t *testing.T, text string) api.Bag {
	t.Helper()
	b, e := bag.Parse(text)
	if e != api.OK {
		t.Fatal(text, e)
	}
	return b
}

// says are the events of a source that a bag makes, as often as its records are there.
func says(t *testing.T, src int, text string) []api.Event {
	t.Helper()
	var out []api.Event
	for _, x := range of(t, text) {
		for range x.N {
			out = append(out, api.Event{Src: src, Id: len(out), Rec: x.Rec})
		}
	}
	return out
}

// inOrder are events in right order.
func inOrder(l ...[]api.Event) []api.Event {
	out := slices.Concat(l...)
	slices.SortFunc(out, func(a, b api.Event) int {
		return cmp.Or(a.Rec.At-b.Rec.At, a.Src-b.Src, a.Id-b.Id)
	})
	return out
}

// example is the P of the chapter, and the E.
func example(t *testing.T) (api.TermProg, []api.Event) {
	p := prog(t, "source x, y let a = x once let b = a slide 5 by sum and prev 3 b let c = a lack y within 2")
	return p, []api.Event{event(0, 1, 10, 1, 5), event(1, 1, 11, 1, 2), event(0, 2, 14, 1, 7)}
}

// badProgs are not formed.
func badProgs(t *testing.T) []api.TermProg {
	p, _ := example(t)
	loop := []api.TermExp{{Op: api.TermSrc, Name: "x"}}
	loop[0] = api.TermExp{Op: api.TermOnce, Kids: loop}
	ahead := prog(t, "source x let a = x lack prev 1 b within 3 let b = x")
	ahead.Defs[1].Exp = ahead.Defs[0].Exp
	return []api.TermProg{
		{}, {Defs: p.Defs}, {Srcs: []string{"x", "x"}}, {Srcs: []string{"x", "y", "z", "u", "v"}}, {Srcs: []string{"x"}, Defs: p.Defs}, ahead,
		{Srcs: []string{"x"}, Defs: []api.TermDef{{Name: "a"}}}, {Srcs: []string{"x"}, Defs: []api.TermDef{{Name: "a", Exp: loop[0]}}},
	}
}

// badEvents are none for two sources.
func badEvents() [][]api.Event {
	a, b, c := event(0, 1, 10, 1, 5), event(1, 1, 10, 1, 2), event(0, 2, 14, 1, 7)
	out := [][]api.Event{{b, a}, {c, a}, {event(0, 2, 10, 0, 0), a}, {a, a}, {a, event(0, 1, 10, 1, 6)}, {a, event(0, 1, 11, 1, 5)}, {a, b, a}}
	for _, n := range []int{-1, 1000, math.MaxInt, math.MinInt} {
		out = append(out, []api.Event{a, event(0, n, 10, 1, 5)}, []api.Event{event(0, 0, n, 0, 0), c})
	}
	for _, n := range []int{-1, 2, 4, math.MaxInt, math.MinInt} {
		out = append(out, []api.Event{event(n, 1, 10, 1, 5)})
	}
	for _, n := range []int{-1000000001, 1000000001, math.MaxInt, math.MinInt} {
		out = append(out, []api.Event{event(0, 1, 10, n, 5)}, []api.Event{event(0, 1, 10, 1, n)})
	}
	return append(out, []api.Event{event(0, 1, 201, 0, 0)}, wide(61))
}

// wide are n events, each of a time of its own.
func wide(n int) []api.Event {
	var out []api.Event
	for i := range n {
		out = append(out, event(i%2, i, i, i%3, i))
	}
	return out
}

// Random programs.

func anyTerm(r *rand.Rand, depth int, other bool) api.Calc {
	op := api.CalcOp(1 + r.IntN(10))
	switch {
	case op == api.CalcOther && !other, op >= api.CalcAdd && depth == 1, op == api.CalcInt:
		return num(pick(r, []int{-2, -1, 0, 0, 1, 1, 2, 3, 12, -1000000000, 1000000000}))
	case op >= api.CalcAdd:
		return two(op, anyTerm(r, depth-1, other), anyTerm(r, depth-1, other))
	}
	return leaf(op)
}

var spans = []int{0, 1, 1, 2, 3, 4, 5, 7, 10, 30, 49, 50}

// anyExp is formed, but for its length, for an N that is 0, and for rings that look ahead.
func anyExp(r *rand.Rand, p api.TermProg, at, depth int) api.TermExp {
	if depth == 1 || r.IntN(6) == 0 {
		switch {
		case at > 0 && r.IntN(3) == 0:
			return api.TermExp{Op: api.TermRef, Name: p.Defs[r.IntN(at)].Name}
		case r.IntN(3) == 0:
			return api.TermExp{Op: api.TermPrev, N: pick(r, spans), Name: pick(r, p.Defs).Name}
		}
		return api.TermExp{Op: api.TermSrc, Name: pick(r, p.Srcs)}
	}
	x := api.TermExp{Op: api.TermBoth + api.TermOp(r.IntN(int(api.TermOnce-api.TermBoth)+1))}
	terms, kids, ns := 0, 1, false
	switch x.Op {
	case api.TermBoth:
		kids = 2
	case api.TermWhere:
		terms = 1
	case api.TermEach:
		terms = 2
	case api.TermShift:
		ns = true
	case api.TermGroup, api.TermSlide, api.TermRest:
		x.Fold, ns = api.TermFold(1+r.IntN(4)), true
	case api.TermTotal:
		x.Fold = api.TermFold(1 + r.IntN(4))
	case api.TermPair, api.TermAsof:
		terms, kids, ns = 1, 2, x.Op == api.TermPair
	case api.TermLack:
		kids, ns = 2, true
	}
	if ns {
		x.N = pick(r, spans)
	}
	if x.Op == api.TermShift && r.IntN(3) == 0 {
		x.N = -x.N
	}
	for range terms {
		x.Calcs = append(x.Calcs, anyTerm(r, 1+r.IntN(3), kids == 2))
	}
	for range kids {
		x.Kids = append(x.Kids, anyExp(r, p, at, depth-1))
	}
	return x
}

// anyProg is formed.
func anyProg(r *rand.Rand, allowed func(api.TermExp) bool) api.TermProg {
	for {
		p := api.TermProg{Srcs: []string{"x", "y", "z"}[:1+r.IntN(3)]}
		for _, name := range []string{"a", "b", "c", "d"}[:1+r.IntN(4)] {
			p.Defs = append(p.Defs, api.TermDef{Name: name})
		}
		ok := true
		for i := range p.Defs {
			p.Defs[i].Exp = anyExp(r, p, i, 1+r.IntN(4))
			for _, x := range preorder(p.Defs[i].Exp) {
				ok = ok && (allowed == nil || allowed(x))
			}
		}
		if ok && term.Check(p) == api.OK {
			return p
		}
	}
}

// anyEvents are formed for some sources; many are alike, some are at the ends of time.
func anyEvents(r *rand.Rand, srcs, most int) []api.Event {
	var out []api.Event
	last := pick(r, []int{4, 20, 60, 200})
	for id := range r.IntN(most + 1) {
		at := r.IntN(last + 1)
		if r.IntN(8) == 0 {
			at = pick(r, []int{0, 1, 100, 198, 199, 200})
		}
		val := r.IntN(5) - 1
		if r.IntN(20) == 0 {
			val = pick(r, []int{-1000000000, 999999999, 1000000000})
		}
		out = append(out, event(r.IntN(srcs), id, at, r.IntN(3)-1, val))
	}
	return inOrder(out)
}

func preorder(x api.TermExp) []api.TermExp {
	out := []api.TermExp{x}
	for _, kid := range x.Kids {
		out = append(out, preorder(kid)...)
	}
	return out
}

// answers are those of a program for which there is not too much.
func answers(t *testing.T, p api.TermProg, l []api.Event) []api.Bag {
	t.Helper()
	out, e := mean.Of(p, l)
	if e != api.OK || len(out) != len(p.Defs) {
		t.Fatal(p, l, out, e)
	}
	return out
}

// upTo is what a bag has up to a time.
func upTo(b api.Bag, at int) api.Bag {
	return slices.DeleteFunc(slices.Clone(b), func(x api.BagItem) bool { return x.Rec.At > at })
}

func equalBags(a, b []api.Bag) bool { return slices.EqualFunc(a, b, slices.Equal) }
