package term

import "afterword/api"

// Reach returns the sources on which a definition depends, and the definitions that it reaches.
func Reach(p api.TermProg, def int) (srcs, defs []int, e api.Errno) {
	if e := checkDefs(p, def); e != api.OK {
		return nil, nil, e
	}
	reached := reachedDefs(p)[def]
	return numbers(neededSrcs(p, def, reached)), numbers(reached), api.OK
}

// Rings returns all rings of a program.
func Rings(p api.TermProg) ([][]int, api.Errno) {
	if e := Check(p); e != api.OK {
		return nil, e
	}
	reached := reachedDefs(p)
	var out [][]int
	for def := range p.Defs {
		ring := ringOf(reached, def)
		if len(ring) > 0 && ring[0] == def {
			out = append(out, ring)
		}
	}
	return out, api.OK
}

// ringOf is empty if a definition is in no ring: then none that it reaches, reaches it.
func ringOf(reached [][]bool, def int) []int {
	in := make([]bool, len(reached))
	for i := range reached {
		in[i] = reached[def][i] && reached[i][def]
	}
	return numbers(in)
}

// reachedDefs tells of each definition which ones it reaches.
func reachedDefs(p api.TermProg) [][]bool {
	scope := scopeOf(p)
	named := changed(p.Defs, func(d api.TermDef) []int { return namedDefs(scope, d.Exp) })
	return changed(named, func(first []int) []bool {
		reached := make([]bool, len(p.Defs))
		var visit func(defs []int)
		visit = func(defs []int) {
			for _, def := range defs {
				if !reached[def] {
					reached[def] = true
					visit(named[def])
				}
			}
		}
		visit(first)
		return reached
	})
}

// namedDefs are the definitions that an expression names, in the order of its nodes.
func namedDefs(s program, x api.TermExp) []int {
	var out []int
	for node := range nodesOf(x) {
		if node.Op == api.TermRef || node.Op == api.TermPrev {
			out = append(out, s.def(node.Name))
		}
	}
	return out
}

// neededSrcs tells which sources stand in a definition, or in one that it reaches.
func neededSrcs(p api.TermProg, def int, reached []bool) []bool {
	scope := scopeOf(p)
	needed := make([]bool, len(p.Srcs))
	for i, d := range p.Defs {
		if i != def && !reached[i] {
			continue
		}
		for node := range nodesOf(d.Exp) {
			if node.Op == api.TermSrc {
				needed[scope.src(node.Name)] = true
			}
		}
	}
	return needed
}

// numbers are those of the elements that are true.
func numbers(l []bool) []int {
	var out []int
	for i, is := range l {
		if is {
			out = append(out, i)
		}
	}
	return out
}
