package mean

import (
	"slices"

	"afterword/api"
	"afterword/term"
)

// group is a ring, or another definition alone.
type group struct {
	defs []int
	ring bool
}

// groupsOf are the groups of a program that is formed, in their order.
func groupsOf(p api.TermProg) []group {
	waiting, reached := sortedGroups(p), reachedDefs(p)
	ahead := make([]bool, len(p.Defs))
	isReady := func(g group) bool {
		return !slices.ContainsFunc(g.defs, func(def int) bool {
			return slices.ContainsFunc(reached[def], func(d int) bool { return !ahead[d] && !slices.Contains(g.defs, d) })
		})
	}
	var out []group
	for len(waiting) > 0 {
		i := slices.IndexFunc(waiting, isReady)
		out = append(out, waiting[i])
		for _, def := range waiting[i].defs {
			ahead[def] = true
		}
		waiting = slices.Delete(waiting, i, i+1)
	}
	return out
}

// sortedGroups are the groups by their least definitions.
func sortedGroups(p api.TermProg) []group {
	rings, _ := term.Rings(p)
	out := changed(rings, func(l []int) group { return group{l, true} })
	for def := range p.Defs {
		if !slices.ContainsFunc(out, func(g group) bool { return slices.Contains(g.defs, def) }) {
			out = append(out, group{[]int{def}, false})
		}
	}
	slices.SortFunc(out, func(g, h group) int { return g.defs[0] - h.defs[0] })
	return out
}

func reachedDefs(p api.TermProg) [][]int {
	var out [][]int
	for def := range p.Defs {
		_, reached, _ := term.Reach(p, def)
		out = append(out, reached)
	}
	return out
}
