package mean

import (
	"slices"

	"afterword/api"
)

// run is a program that is asked what it means for some events.
type run struct {
	api.TermProg
	does  map[api.TermOp]does
	srcs  []known   // the bags of the sources
	nodes [][]*node // those of each definition, in order
}

// node is a node of an expression, and what is known of its bag.
type node struct {
	api.TermExp
	values []value
	below  []*node // those of its Kids
	bag    known
}

// does tells which records a node has in a window, in any order, if what it depends on is known so far.
type does func(r *run, x *node, w window) []api.BagItem

// newRun lays out what there is to do; no bag but those of the sources is known.
func newRun(p api.TermProg, l []api.Event) *run {
	r := &run{TermProg: p, does: doings(), nodes: make([][]*node, len(p.Defs))}
	for src := range p.Srcs {
		r.srcs = append(r.srcs, said(l, src))
	}
	for def, d := range p.Defs {
		r.lay(def, d.Exp)
	}
	return r
}

func (r *run) lay(def int, x api.TermExp) *node {
	n := &node{TermExp: x, values: changed(x.Calcs, valueOf)}
	r.nodes[def] = append(r.nodes[def], n)
	n.below = changed(x.Kids, func(kid api.TermExp) *node { return r.lay(def, kid) })
	return n
}

// play makes all bags known, and reports whether nothing is too much. A ring goes moment by moment: so its definitions know what they were before.
func (r *run) play() (enough bool) {
	defer func() {
		if recover() != nil {
			enough = false
		}
	}()
	for _, g := range groupsOf(r.TermProg) {
		if !g.ring {
			r.goOn(g, window{0, api.RecTime})
			continue
		}
		for t := range api.RecTime + 1 {
			r.goOn(g, window{t, t})
		}
	}
	return true
}

// goOn makes known what a group has in a window, in each definition the Kids first.
func (r *run) goOn(g group, w window) {
	for _, def := range g.defs {
		for _, x := range slices.Backward(r.nodes[def]) {
			x.bag = x.bag.added(summed(r.does[x.Op](r, x, w)))
		}
	}
}

// answer is what is known of a definition.
func (r *run) answer(name string) known {
	def := slices.IndexFunc(r.Defs, func(d api.TermDef) bool { return d.Name == name })
	return r.nodes[def][0].bag
}

// kid is what is known of a Kid.
func (x *node) kid(i int) known { return x.below[i].bag }

// fold is the record at a time that the Kid's ones of a key in a window become.
func (x *node) fold(at, key int, w window) api.BagItem {
	return api.BagItem{Rec: api.Rec{At: at, Key: key, Val: folded(x.Fold, x.kid(0).of(key, w))}, N: 1}
}
