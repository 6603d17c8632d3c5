package lag

import (
	"iter"
	"slices"

	"afterword/api"
	"afterword/mean"
	"afterword/term"
)

// known is a program, and what is known of the lags of its definitions: what they are at least.
type known struct {
	prog   api.TermProg
	does   map[api.TermOp]does
	inRing []bool
	defs   [][]lag // of each definition, about each source
}

// settled is what there is to know of a program that is formed.
func settled(p api.TermProg) *known {
	off := func(int) []lag { return make([]lag, len(p.Srcs)) }
	k := &known{prog: p, does: doings(), inRing: make([]bool, len(p.Defs)), defs: listOf(len(p.Defs), off)}
	rings, _ := term.Rings(p)
	for _, def := range slices.Concat(rings...) {
		k.inRing[def] = true
	}
	groups, _ := mean.Order(p)
	for _, group := range groups {
		k.settle(group)
	}
	return k
}

// settle goes round a group until nothing changes. This comes to an end, since lags only grow, and each way round a ring takes some time: so none leads further ahead again.
func (k *known) settle(group []int) {
	unchanged := 0
round:
	for {
		for _, def := range group {
			unchanged++
			if k.learn(def) {
				unchanged = 0
			}
			if unchanged == len(group) {
				break round
			}
		}
	}
}

// learn finds the lags of a definition anew, and reports whether they have changed.
func (k *known) learn(def int) bool {
	was := k.defs[def]
	is := k.lags(k.prog.Defs[def].Exp)
	if k.inRing[def] {
		for src, l := range is {
			is[src] = l.fromBeginning()
		}
	}
	k.defs[def] = is
	return !slices.Equal(was, is)
}

// lags are those of a node about all sources.
func (k *known) lags(x api.TermExp) []lag {
	return listOf(len(k.prog.Srcs), func(src int) lag { return k.lag(x, src) })
}

func (k *known) lag(x api.TermExp, src int) lag {
	var first, second lag
	if len(x.Kids) == 0 {
		first = k.named(x, src)
	} else {
		first = k.lag(x.Kids[0], src)
	}
	if len(x.Kids) > 1 {
		second = k.lag(x.Kids[1], src)
	}
	return k.does[x.Op](first, x.N, second)
}

// named is the lag of what a node names.
func (k *known) named(x api.TermExp, src int) lag {
	if x.Op == api.TermSrc {
		return lag{On: x.Name == k.prog.Srcs[src]}
	}
	def := slices.IndexFunc(k.prog.Defs, func(d api.TermDef) bool { return d.Name == x.Name })
	return k.defs[def][src]
}

// nodesOf yields the nodes of an expression with their numbers.
func nodesOf(x api.TermExp) iter.Seq2[int, api.TermExp] {
	return func(yield func(int, api.TermExp) bool) {
		number := 0
		var visit func(x api.TermExp) bool
		visit = func(x api.TermExp) bool {
			if !yield(number, x) {
				return false
			}
			number++
			for _, kid := range x.Kids {
				if !visit(kid) {
					return false
				}
			}
			return true
		}
		visit(x)
	}
}

// listOf is a list of what there is for each number below n.
func listOf[T any](n int, each func(int) T) []T {
	var out []T
	for i := range n {
		out = append(out, each(i))
	}
	return out
}
