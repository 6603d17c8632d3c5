package mean_test

import (
	"math/rand/v2"
	"slices"
	"testing"

	"afterword/api"
	"afterword/mean"
	"afterword/term"
)

// P6.3, P6.4: random programs, by the definition: all answers, and the bags of all nodes.
func TestAnswersAny(t *testing.T) {
	r := rand.New(rand.NewPCG(63, 6))
	items, much, seen := 0, 0, map[api.TermOp]int{}
	for range 4000 {
		p := anyProg(r, nil)
		l := anyEvents(r, len(p.Srcs), pick(r, []int{3, 12, 60}))
		o := newOracle(p, l)
		want := api.OK
		if !o.play() {
			want = api.ErrLong
			much++
		}
		got, e := mean.Of(p, l)
		mustBe(t, e == want && (e == api.OK && equalBags(got, o.answers()) || e != api.OK && len(got) == 0), p, l, got, e)
		def := r.IntN(len(p.Defs))
		for node, x := range o.exps[def] {
			b, e := mean.Node(p, l, def, node)
			mustBe(t, e == want && (e == api.OK && slices.Equal(b, o.bags[def][node].list()) || e != api.OK && len(b) == 0), p, l, def, node, b, e)
			seen[x.Op] += min(len(b), 1)
		}
		for _, b := range got {
			items += len(b)
		}
	}
	mustBe(t, items > 20000 && much > 10, items, much)
	for op := api.TermSrc; op <= api.TermOnce; op++ {
		mustBe(t, seen[op] > 40, op, seen[op])
	}
}

// onlyRings are programs of rings alone, in all of which something comes.
func onlyRings(r *rand.Rand) api.TermProg {
	for {
		p := anyProg(r, func(x api.TermExp) bool { return x.Op != api.TermLack && (x.Op != api.TermShift || x.N >= 0) })
		o := newOracle(p, nil)
		rings := true
		for i, l := range o.reached() {
			rings = rings && l[i]
			p.Defs[i].Exp = api.TermExp{Op: api.TermBoth, Kids: []api.TermExp{{Op: api.TermSrc, Name: pick(r, p.Srcs)}, p.Defs[i].Exp}}
		}
		if rings && term.Check(p) == api.OK {
			return p
		}
	}
}

// P6.3, P6.4: the same of random rings: each node is what its row says of the others, however these are found.
func TestRingsAny(t *testing.T) {
	r := rand.New(rand.NewPCG(64, 6))
	items, much := 0, 0
	for range 1000 {
		p := onlyRings(r)
		l := anyEvents(r, len(p.Srcs), 10)
		o := newOracle(p, l)
		got, e := mean.Of(p, l)
		if !o.play() {
			mustBe(t, e == api.ErrLong && len(got) == 0, p, l, got, e)
			much++
			continue
		}
		mustBe(t, e == api.OK && equalBags(got, o.answers()), p, l, got, e)
		for _, b := range got {
			items += len(b)
		}
	}
	mustBe(t, items > 20000 && much > 20, items, much)
}

// P6.3: of no events there are no answers.
func TestNoEvents(t *testing.T) {
	r := rand.New(rand.NewPCG(65, 6))
	for range 500 {
		p := anyProg(r, nil)
		for _, l := range [][]api.Event{nil, {}} {
			for def, b := range answers(t, p, l) {
				mustBe(t, len(b) == 0, p, b)
				for node := range preorder(p.Defs[def].Exp) {
					b, e := mean.Node(p, l, def, node)
					mustBe(t, len(b) == 0 && e == api.OK, p, def, node, b, e)
				}
			}
		}
	}
	mustBe(t, len(answers(t, prog(t, "source x"), nil)) == 0, "no definitions")
	mustBe(t, len(answers(t, prog(t, "source x"), wideFrom(0, 9))) == 0, "no definitions")
}
