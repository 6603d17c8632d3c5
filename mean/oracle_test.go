package mean_test

import (
	"cmp"
	"maps"
	"slices"

	"afterword/api"
)

// The oracle looks at each time by itself, as the rows of the chapter's table say, and goes through all that there is.

// tally says how often records are there.
type tally map[api.Rec]int

type oracle struct {
	p      api.TermProg
	events []api.Event
	exps   [][]api.TermExp
	kids   [][][]int
	bags   [][]tally
}

func newOracle(p api.TermProg, l []api.Event) *oracle {
	o := &oracle{p: p, events: l}
	for _, d := range p.Defs {
		exps := preorder(d.Exp)
		var kids [][]int
		for i, x := range exps {
			var below []int
			next := i + 1
			for _, kid := range x.Kids {
				below = append(below, next)
				next += len(preorder(kid))
			}
			kids = append(kids, below)
		}
		o.exps, o.kids, o.bags = append(o.exps, exps), append(o.kids, kids), append(o.bags, make([]tally, len(exps)))
		for i := range exps {
			o.bags[len(o.bags)-1][i] = tally{}
		}
	}
	return o
}

// reached tells which definitions each one reaches, by ways that become longer.
func (o *oracle) reached() [][]bool {
	out := make([][]bool, len(o.p.Defs))
	for i := range out {
		out[i] = make([]bool, len(out))
		for j, d := range o.p.Defs {
			for _, x := range o.exps[i] {
				out[i][j] = out[i][j] || (x.Op == api.TermRef || x.Op == api.TermPrev) && x.Name == d.Name
			}
		}
	}
	for range out {
		for i := range out {
			for j := range out {
				for k := range out {
					out[i][k] = out[i][k] || out[i][j] && out[j][k]
				}
			}
		}
	}
	return out
}

// order are the groups, again and again the first one that can be next.
func (o *oracle) order() [][]int {
	reached := o.reached()
	done := make([]bool, len(reached))
	var out [][]int
	for slices.Contains(done, false) {
		for i := range reached {
			var group []int
			ready := !done[i]
			for j := range reached {
				own := j == i || reached[i][j] && reached[j][i]
				if own {
					group = append(group, j)
				}
				ready = ready && (own || done[j] || !reached[i][j])
			}
			if ready {
				for _, j := range group {
					done[j] = true
				}
				out = append(out, group)
				break
			}
		}
	}
	return out
}

// play reports whether there is not too much.
func (o *oracle) play() bool {
	reached := o.reached()
	for _, group := range o.order() {
		if !reached[group[0]][group[0]] {
			for i := len(o.exps[group[0]]) - 1; i >= 0; i-- {
				for t := range 201 {
					if !o.learn(group[0], i, t) {
						return false
					}
				}
			}
			continue
		}
		for t := range 201 {
			for _, def := range group {
				for i := len(o.exps[def]) - 1; i >= 0; i-- {
					if !o.learn(def, i, t) {
						return false
					}
				}
			}
		}
	}
	return true
}

func (o *oracle) learn(def, node, t int) bool {
	b := o.bags[def][node]
	for r, n := range o.row(def, node, t) {
		b[r] = n
		if n > 1000000 {
			return false
		}
	}
	return len(b) <= 300
}

func (o *oracle) answer(name string) tally {
	for i, d := range o.p.Defs {
		if d.Name == name {
			return o.bags[i][0]
		}
	}
	return nil
}

// some are the records for which something is so.
func (b tally) some(is func(r api.Rec) bool) tally {
	out := tally{}
	for r, n := range b {
		if is(r) {
			out[r] = n
		}
	}
	return out
}

func (b tally) keys() map[int]bool {
	out := map[int]bool{}
	for r := range b {
		out[r.Key] = true
	}
	return out
}

func (b tally) at(t int) tally { return b.some(func(r api.Rec) bool { return r.At == t }) }

// row is what a node has at a time.
func (o *oracle) row(def, node, t int) tally {
	x := o.exps[def][node]
	var kids []tally
	for _, i := range o.kids[def][node] {
		kids = append(kids, o.bags[def][i])
	}
	out := tally{}
	switch x.Op {
	case api.TermSrc:
		for _, v := range o.events {
			if o.p.Srcs[v.Src] == x.Name && v.Rec.At == t {
				out[v.Rec]++
			}
		}
	case api.TermRef:
		return o.answer(x.Name).at(t)
	case api.TermPrev:
		return moved(o.answer(x.Name), x.N, t)
	case api.TermShift:
		return moved(kids[0], x.N, t)
	case api.TermBoth:
		for r, n := range kids[0].at(t) {
			out[r] += n
		}
		for r, n := range kids[1].at(t) {
			out[r] += n
		}
	case api.TermWhere:
		return kids[0].at(t).some(func(r api.Rec) bool { return valueOf(x.Calcs[0], r, 0) != 0 })
	case api.TermEach:
		for r, n := range kids[0].at(t) {
			out[rec(t, valueOf(x.Calcs[0], r, 0), valueOf(x.Calcs[1], r, 0))] += n
		}
	case api.TermOnce:
		for r := range kids[0].at(t) {
			out[r] = 1
		}
	case api.TermGroup, api.TermSlide, api.TermTotal, api.TermRest:
		return folds(x, kids[0], t)
	default:
		return meetings(x, kids[0], kids[1], t)
	}
	return out
}

func moved(b tally, n, t int) tally {
	out := tally{}
	for r, many := range b.at(t - n) {
		r.At = t
		out[r] = many
	}
	return out
}

func folds(x api.TermExp, kid tally, t int) tally {
	out := tally{}
	for key := range kid.keys() {
		own := kid.some(func(r api.Rec) bool { return r.Key == key })
		var from, to int
		switch x.Op {
		case api.TermGroup:
			from, to = t-x.N+1, t
			if (t+1)%x.N != 0 {
				continue
			}
		case api.TermRest:
			var is bool
			if from, to, is = session(own, x.N, t-x.N); !is {
				continue
			}
		default:
			from, to = 0, t
			if x.Op == api.TermSlide {
				from = t - x.N
			}
			if len(own.at(t)) == 0 {
				continue
			}
		}
		window := own.some(func(r api.Rec) bool { return from <= r.At && r.At <= to })
		if len(window) > 0 {
			out[rec(t, key, foldOf(x.Fold, window))] = 1
		}
	}
	return out
}

// session is the one with some last time, if there is one.
func session(own tally, apart, last int) (from, to int, is bool) {
	var times []int
	for r := range own {
		times = append(times, r.At)
	}
	slices.Sort(times)
	from = -1
	for i, at := range times {
		if i == 0 || at-times[i-1] > apart {
			from = at
		}
		if at == last && (i+1 == len(times) || times[i+1]-at > apart) {
			return from, at, true
		}
	}
	return 0, 0, false
}

func meetings(x api.TermExp, a, b tally, t int) tally {
	out := tally{}
	for r, n := range a {
		if r.At > t || r.At < t-x.N {
			continue
		}
		near := b.some(func(s api.Rec) bool { return s.Key == r.Key && max(s.At-r.At, r.At-s.At) <= x.N })
		switch {
		case x.Op == api.TermPair:
			for s, m := range near {
				if max(r.At, s.At) == t {
					out[rec(t, r.Key, valueOf(x.Calcs[0], rec(t, r.Key, r.Val), s.Val))] += n * m
				}
			}
		case r.At != t:
		case x.Op == api.TermLack:
			if len(near) == 0 {
				out[r] = n
			}
		case x.Op == api.TermAsof:
			ahead := slices.Collect(maps.Keys(b.some(func(s api.Rec) bool { return s.Key == r.Key && s.At <= t })))
			if len(ahead) > 0 {
				last := slices.MaxFunc(ahead, func(p, q api.Rec) int { return cmp.Or(p.At-q.At, p.Val-q.Val) })
				out[rec(t, r.Key, valueOf(x.Calcs[0], r, last.Val))] += n
			}
		}
	}
	return out
}

func foldOf(f api.TermFold, b tally) int {
	var vals []int
	count, sum := 0, 0
	for r, n := range b {
		vals = append(vals, r.Val)
		count, sum = count+n, sum+n*r.Val
	}
	switch f {
	case api.FoldCount:
		return clamp(count)
	case api.FoldSum:
		return clamp(sum)
	case api.FoldLeast:
		return slices.Min(vals)
	}
	return slices.Max(vals)
}

func valueOf(c api.Calc, r api.Rec, other int) int {
	var kids []int
	for _, kid := range c.Kids {
		kids = append(kids, valueOf(kid, r, other))
	}
	is := map[bool]int{true: 1}
	switch c.Op {
	case api.CalcInt:
		return c.N
	case api.CalcAt:
		return r.At
	case api.CalcKey:
		return r.Key
	case api.CalcVal:
		return r.Val
	case api.CalcOther:
		return other
	case api.CalcAdd:
		return clamp(kids[0] + kids[1])
	case api.CalcSub:
		return clamp(kids[0] - kids[1])
	case api.CalcMul:
		return clamp(kids[0] * kids[1])
	case api.CalcLess:
		return is[kids[0] < kids[1]]
	}
	return is[kids[0] == kids[1]]
}

func clamp(n int) int {
	if n > 1000000000 {
		return 1000000000
	}
	if n < -1000000000 {
		return -1000000000
	}
	return n
}

// list is the bag of a tally.
func (b tally) list() api.Bag {
	var out api.Bag
	for r, n := range b {
		out = append(out, api.BagItem{Rec: r, N: n})
	}
	slices.SortFunc(out, func(x, y api.BagItem) int {
		return cmp.Or(x.Rec.At-y.Rec.At, x.Rec.Key-y.Rec.Key, x.Rec.Val-y.Rec.Val)
	})
	return out
}

// answers are the bags of all definitions.
func (o *oracle) answers() []api.Bag {
	var out []api.Bag
	for _, l := range o.bags {
		out = append(out, l[0].list())
	}
	return out
}
