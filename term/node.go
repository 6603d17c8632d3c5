package term

import (
	"iter"

	"afterword/api"
)

// Depth returns how deep the expression of a definition is.
func Depth(p api.TermProg, def int) (int, api.Errno) {
	if e := checkDefs(p, def); e != api.OK {
		return 0, e
	}
	return depthOf(p.Defs[def].Exp), api.OK
}

// Parts returns the nodes of a definition's expression, each one whole.
func Parts(p api.TermProg, def int) ([]api.TermExp, api.Errno) {
	if e := checkDefs(p, def); e != api.OK {
		return nil, e
	}
	var out []api.TermExp
	for x := range nodesOf(p.Defs[def].Exp) {
		out = append(out, copied(x))
	}
	return out, api.OK
}

func depthOf(x api.TermExp) int {
	deepest := 0
	for _, kid := range x.Kids {
		deepest = max(deepest, depthOf(kid))
	}
	return deepest + 1
}

// nodesOf yields an expression, and then the nodes of its Kids, in order.
func nodesOf(x api.TermExp) iter.Seq[api.TermExp] {
	return func(yield func(api.TermExp) bool) {
		yieldNodes(x, yield)
	}
}

// yieldNodes reports whether more nodes are wanted.
func yieldNodes(x api.TermExp, yield func(api.TermExp) bool) bool {
	if !yield(x) {
		return false
	}
	for _, kid := range x.Kids {
		if !yieldNodes(kid, yield) {
			return false
		}
	}
	return true
}

// changed is a new list with what becomes of each element.
func changed[T, U any](l []T, change func(T) U) []U {
	var out []U
	for _, x := range l {
		out = append(out, change(x))
	}
	return out
}

// rebuilt is a new expression in which each node is what becomes of it, its Kids first.
func rebuilt(x api.TermExp, change func(api.TermExp) api.TermExp) api.TermExp {
	x.Calcs = changed(x.Calcs, copiedCalc)
	x.Kids = changed(x.Kids, func(kid api.TermExp) api.TermExp { return rebuilt(kid, change) })
	return change(x)
}

// rebuiltDefs are new definitions in which each node is what becomes of it.
func rebuiltDefs(l []api.TermDef, change func(api.TermExp) api.TermExp) []api.TermDef {
	return changed(l, func(d api.TermDef) api.TermDef {
		return api.TermDef{Name: d.Name, Exp: rebuilt(d.Exp, change)}
	})
}

func same(x api.TermExp) api.TermExp { return x }

func copied(x api.TermExp) api.TermExp { return rebuilt(x, same) }

func copiedCalc(c api.Calc) api.Calc {
	c.Kids = changed(c.Kids, copiedCalc)
	return c
}
