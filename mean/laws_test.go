package mean_test

import (
	"math/rand/v2"
	"slices"
	"testing"

	"afterword/api"
	"afterword/bag"
	"afterword/mean"
	"afterword/term"
)

// P6.5: if nothing looks ahead, the answers up to a time are those of the events up to it.
func TestTime(t *testing.T) {
	r := rand.New(rand.NewPCG(66, 6))
	count := 0
	for range 600 {
		p := anyProg(r, func(x api.TermExp) bool { return x.Op != api.TermLack && (x.Op != api.TermShift || x.N >= 0) })
		l := anyEvents(r, len(p.Srcs), 20)
		all, e := mean.Of(p, l)
		if e != api.OK {
			continue
		}
		for _, at := range []int{0, r.IntN(201), r.IntN(30), 199} {
			some := slices.DeleteFunc(slices.Clone(l), func(v api.Event) bool { return v.Rec.At > at })
			for def, b := range answers(t, p, some) {
				mustBe(t, slices.Equal(upTo(b, at), upTo(all[def], at)), p, l, at, def, b, all[def])
				count += len(upTo(b, at))
			}
		}
	}
	mustBe(t, count > 5000, count)
}

// P6.6: the canonical program has the same answers.
func TestCanon(t *testing.T) {
	r := rand.New(rand.NewPCG(67, 6))
	for range 500 {
		p := anyProg(r, nil)
		for i := range p.Srcs {
			p = renamed(p, p.Srcs[i], p.Srcs[i]+"x")
		}
		l := anyEvents(r, len(p.Srcs), 12)
		c, e := term.Canon(p)
		mustBe(t, e == api.OK && c.Srcs[0] == "a", c, e)
		want, e := mean.Of(p, l)
		got, f := mean.Of(c, l)
		mustBe(t, e == f && equalBags(got, want), p, l, got, want, e, f)
	}
}

// renamed is a program with another name for a source.
func renamed(p api.TermProg, old, name string) api.TermProg {
	var walk func(x api.TermExp) api.TermExp
	walk = func(x api.TermExp) api.TermExp {
		if x.Op == api.TermSrc && x.Name == old {
			x.Name = name
		}
		x.Kids = slices.Clone(x.Kids)
		for i, kid := range x.Kids {
			x.Kids[i] = walk(kid)
		}
		return x
	}
	p.Srcs, p.Defs = slices.Clone(p.Srcs), slices.Clone(p.Defs)
	p.Srcs[slices.Index(p.Srcs, old)] = name
	for i, d := range p.Defs {
		p.Defs[i].Exp = walk(d.Exp)
	}
	return p
}

// P6.6: a program without a definition has the answers of the others.
func TestInline(t *testing.T) {
	r := rand.New(rand.NewPCG(68, 6))
	count := 0
	for range 1500 {
		p := anyProg(r, nil)
		def := r.IntN(len(p.Defs))
		q, e := term.Inline(p, def)
		l := anyEvents(r, len(p.Srcs), 12)
		want, f := mean.Of(p, l)
		if e != api.OK || f != api.OK {
			continue
		}
		got := answers(t, q, l)
		mustBe(t, equalBags(got, slices.Delete(want, def, def+1)), p, l, def, got, want)
		count++
	}
	mustBe(t, count > 500, count)
}

// P6.6: the program of some definitions has their answers, also if there is too much of another one.
func TestKeep(t *testing.T) {
	r := rand.New(rand.NewPCG(69, 6))
	count := 0
	for range 600 {
		p := anyProg(r, nil)
		l := anyEvents(r, len(p.Srcs), 12)
		want, e := mean.Of(p, l)
		q, f := term.Keep(p, []int{r.IntN(len(p.Defs)), r.IntN(len(p.Defs))})
		mustBe(t, f == api.OK, p, f)
		if e != api.OK {
			continue
		}
		for i, b := range answers(t, q, l) {
			def := slices.IndexFunc(p.Defs, func(d api.TermDef) bool { return d.Name == q.Defs[i].Name })
			mustBe(t, slices.Equal(b, want[def]), p, l, q, i, b, want[def])
			count++
		}
	}
	mustBe(t, count > 500, count)
	p := prog(t, "source x let a = x let b = a pair a within 50 as val * 100 + other let c = a once")
	q, _ := term.Keep(p, []int{2})
	l := says(t, 0, sequence(18))
	_, e := mean.Of(p, l)
	mustBe(t, e == api.ErrLong && len(answers(t, q, l)[1]) == 18, e)
}

// P6.7: the answers for some events and for the others add up, if each record goes its own way.
func TestParts(t *testing.T) {
	plain := []api.TermOp{api.TermSrc, api.TermRef, api.TermPrev, api.TermBoth, api.TermWhere, api.TermEach, api.TermShift}
	r := rand.New(rand.NewPCG(70, 6))
	count := 0
	for range 800 {
		p := anyProg(r, func(x api.TermExp) bool { return slices.Contains(plain, x.Op) })
		l := anyEvents(r, len(p.Srcs), 16)
		all, e := mean.Of(p, l)
		if e != api.OK {
			continue
		}
		var parts [2][]api.Event
		for _, v := range l {
			i := r.IntN(2)
			parts[i] = append(parts[i], v)
		}
		some, others := answers(t, p, parts[0]), answers(t, p, parts[1])
		for def := range p.Defs {
			sum, e := bag.Add(some[def], others[def])
			mustBe(t, slices.Equal(sum, all[def]) && e == api.OK, p, l, def, sum, all[def], e)
			count += len(sum)
		}
	}
	mustBe(t, count > 3000, count)
}
