package mean

import (
	"slices"

	"afterword/api"
	"afterword/bag"
	"afterword/hist"
	"afterword/term"
)

// isTerm reports whether a term is formed, and no deeper than some: so one that has itself in it comes to an end.
func isTerm(c api.Calc, depth int) bool {
	most, kids := 0, 0
	switch {
	case c.Op < api.CalcInt || c.Op > api.CalcSame:
		return false
	case c.Op == api.CalcInt:
		most = api.RecMost
	case c.Op >= api.CalcAdd:
		kids = 2
	}
	if depth == 0 || c.N < -most || c.N > most || len(c.Kids) != kids {
		return false
	}
	return !slices.ContainsFunc(c.Kids, func(kid api.Calc) bool { return !isTerm(kid, depth-1) })
}

func isRecord(r api.Rec) bool { return bag.Check(api.Bag{{Rec: r, N: 1}}) == api.OK }

// isWhole reports whether a bag is formed, and no record of it is missing.
func isWhole(b api.Bag) bool {
	return bag.Check(b) == api.OK && !slices.ContainsFunc(b, func(x api.BagItem) bool { return x.N < 0 })
}

// areEvents reports whether a program is formed, and events are for it: just those are that stand when they are said.
func areEvents(p api.TermProg, l []api.Event) bool {
	if term.Check(p) != api.OK {
		return false
	}
	news := changed(l, func(v api.Event) api.News {
		return api.News{Do: api.NewsSay, Src: v.Src, Id: v.Id, Ver: 1, Rec: v.Rec}
	})
	stand, e := hist.Stands(news, len(p.Srcs))
	return e == api.OK && slices.Equal(stand, l)
}
