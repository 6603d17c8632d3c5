package lag_test

import (
	"slices"

	"afterword/api"
)

// The oracle goes down all ways from a node to a source, each one by itself, and through no definition twice: a way round leads no further ahead.

// way is one way from a node down to a source.
type way struct {
	src         string
	ever        bool
	back, ahead int
}

type oracle struct{ p api.TermProg }

// ringed reports whether a definition reaches itself.
func (o oracle) ringed(def int) bool {
	seen, next := make([]bool, len(o.p.Defs)), []int{def}
	for len(next) > 0 {
		for _, x := range preorder(o.p.Defs[next[0]].Exp) {
			for to, d := range o.p.Defs {
				if (x.Op == api.TermRef || x.Op == api.TermPrev) && d.Name == x.Name && !seen[to] {
					seen[to] = true
					next = append(next, to)
				}
			}
		}
		next = next[1:]
	}
	return seen[def]
}

// ofDef are the ways from a definition.
func (o oracle) ofDef(def int, through []int) []way {
	if slices.Contains(through, def) {
		return nil
	}
	l := o.ways(o.p.Defs[def].Exp, append(slices.Clone(through), def))
	if o.ringed(def) {
		l = each(l, func(w *way) { w.ever = true })
	}
	return l
}

func (o oracle) ways(x api.TermExp, through []int) []way {
	switch x.Op {
	case api.TermSrc:
		return []way{{src: x.Name}}
	case api.TermRef, api.TermPrev:
		def := slices.IndexFunc(o.p.Defs, func(d api.TermDef) bool { return d.Name == x.Name })
		return each(o.ofDef(def, through), func(w *way) { w.back, w.ahead = w.back+x.N, w.ahead-x.N })
	}
	var out []way
	for i, kid := range x.Kids {
		out = append(out, each(o.ways(kid, through), func(w *way) {
			switch x.Op {
			case api.TermShift:
				w.back, w.ahead = w.back+x.N, w.ahead-x.N
			case api.TermGroup:
				w.back += x.N - 1
			case api.TermSlide, api.TermPair:
				w.back += x.N
			case api.TermTotal, api.TermRest:
				w.ever = true
			case api.TermAsof:
				w.ever = w.ever || i == 1
			case api.TermLack:
				w.back, w.ahead = w.back+i*x.N, w.ahead+i*x.N
			}
		})...)
	}
	return out
}

func each(l []way, change func(*way)) []way {
	for i := range l {
		change(&l[i])
	}
	return l
}

// lags are the least ones that all ways need.
func (o oracle) lags(l []way) []api.Lag {
	var out []api.Lag
	for _, src := range o.p.Srcs {
		var g api.Lag
		for _, w := range l {
			if w.src != src {
				continue
			}
			if !g.On || w.back > g.Back {
				g.Back = w.back
			}
			if !g.On || w.ahead > g.Ahead {
				g.Ahead = w.ahead
			}
			g.On, g.Ever = true, g.Ever || w.ever
		}
		if g.Ever {
			g.Back = 0
		}
		out = append(out, g)
	}
	return out
}

// all are the lags of all definitions.
func (o oracle) all() [][]api.Lag {
	var out [][]api.Lag
	for def := range o.p.Defs {
		out = append(out, o.lags(o.ofDef(def, nil)))
	}
	return out
}

// needed is the mark of a source that is needed for a time.
func needed(g api.Lag, at int) int {
	if !g.On {
		return 0
	}
	last := at + g.Ahead
	if last > 200 {
		last = 200
	}
	if last+1 < 0 {
		return 0
	}
	return last + 1
}

// touches reports whether an event at a time touches an answer at another one.
func touches(g api.Lag, at, answer int) bool {
	return g.On && at <= answer+g.Ahead && (g.Ever || at >= answer-g.Back)
}
