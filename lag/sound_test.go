package lag_test

import (
	"math/rand/v2"
	"slices"
	"testing"

	"afterword/api"
	"afterword/lag"
	"afterword/mean"
)

// anyRecord is close to others: few keys, few values.
func anyRecord(r *rand.Rand, last int) api.Rec {
	at := r.IntN(last + 1)
	if r.IntN(8) == 0 {
		at = pick(r, []int{0, 1, 100, 198, 199, 200})
	}
	return api.Rec{At: at, Key: r.IntN(2), Val: r.IntN(4)}
}

// other are events of which all that do not touch an answer are others; those that do have other numbers.
func other(r *rand.Rand, l []api.Event, g []api.Lag, answer, last int) []api.Event {
	var out []api.Event
	add := func(src int, rec api.Rec) {
		out = append(out, api.Event{Src: src, Id: 900 - len(out), Rec: rec})
	}
	for _, v := range l {
		if touches(g[v.Src], v.Rec.At, answer) || r.IntN(3) == 0 {
			add(v.Src, v.Rec)
		}
	}
	for range 12 {
		src, rec := r.IntN(len(g)), anyRecord(r, last)
		if !touches(g[src], rec.At, answer) {
			add(src, rec)
		}
	}
	return inOrder(out)
}

// at are the records of a bag at a time.
func at(b api.Bag, time int) api.Bag {
	return slices.DeleteFunc(slices.Clone(b), func(x api.BagItem) bool { return x.Rec.At != time })
}

// P7.4: an answer is the same, whatever becomes of what does not touch it.
func TestSound(t *testing.T) {
	r := rand.New(rand.NewPCG(75, 7))
	full, differ := 0, 0
	for i := range 6000 {
		p := anyProg(r, 4)
		if i%4 == 0 {
			p = anyRing(r, 3)
		}
		last := pick(r, []int{6, 20, 60, 200})
		var l []api.Event
		for id := range r.IntN(16) {
			l = append(l, api.Event{Src: r.IntN(len(p.Srcs)), Id: id, Rec: anyRecord(r, last)})
		}
		was, e := mean.Of(p, inOrder(l))
		if e != api.OK {
			continue
		}
		for def, g := range lags(t, p) {
			time := r.IntN(201)
			if len(was[def]) > 0 && r.IntN(4) > 0 {
				time = pick(r, was[def]).Rec.At
			}
			is, e := mean.Of(p, other(r, l, g, time, last))
			if e != api.OK {
				continue
			}
			mustBe(t, slices.Equal(at(was[def], time), at(is[def], time)), p, l, def, time, was[def], is[def])
			full += min(1, len(at(was[def], time)))
			if !slices.Equal(was[def], is[def]) {
				differ++
			}
		}
	}
	mustBe(t, full > 2000 && differ > 2000, full, differ)
}

// P7.4: an event that comes changes answers at those times alone that Touch names; at both ends of them there are programs where it does.
func TestTouchIsMet(t *testing.T) {
	for _, c := range []struct {
		text        string
		l           []api.Event
		first, last int
	}{
		{"source x let a = x", nil, 100, 100}, {"source x let a = x shift 7", nil, 107, 107}, {"source x let a = x shift ~7", nil, 93, 93}, {"source x let a = prev 7 b let b = x", nil, 107, 107},
		{"source x let a = x slide 9 by sum", says(91, 100, 109), 100, 109}, {"source x let a = x total by sum", says(99, 200), 100, 200}, {"source x let a = x and prev 50 a", nil, 100, 200}, {"source x let a = x rest 10 by sum", says(90, 92, 94, 98, 100, 110, 120, 130, 140, 150, 160, 170, 180, 190), 100, 200},
		{"source x let a = x group 50 by sum", nil, 100, 149}, {"source x, y let a = x pair x within 5 as val + other", says(95, 105), 100, 105}, {"source y, x let a = y at x as other", says(99, 100, 200), 100, 200}, {"source y, x let a = y lack x within 6", says(94, 106), 94, 106},
	} {
		p := prog(t, c.text)
		src := slices.Index(p.Srcs, "x")
		first, last, e := lag.Touch(p, 0, src, 100)
		mustBe(t, first == c.first && last == c.last && e == api.OK, c, first, last, e)
		was, e := mean.Of(p, c.l)
		mustBe(t, e == api.OK, c, e)
		is, e := mean.Of(p, inOrder(append(slices.Clone(c.l), event(src, 999, 100, 0, 5))))
		mustBe(t, e == api.OK, c, e)
		var changed []int
		for time := range 201 {
			if !slices.Equal(at(was[0], time), at(is[0], time)) {
				changed = append(changed, time)
			}
		}
		mustBe(t, len(changed) > 0 && changed[0] >= first && changed[len(changed)-1] == last, c, changed)
		mustBe(t, changed[0] == first || p.Defs[0].Exp.Op == api.TermGroup || p.Defs[0].Exp.Op == api.TermRest, c, changed)
	}
}

// says are events of the source 0 at some times.
func says(times ...int) []api.Event {
	var out []api.Event
	for id, time := range times {
		out = append(out, event(0, id, time, 0, 3))
	}
	return out
}
