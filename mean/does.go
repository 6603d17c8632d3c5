package mean

import (
	"slices"

	"afterword/api"
)

// doings holds what the kinds of expressions do.
func doings() map[api.TermOp]does {
	return map[api.TermOp]does{
		api.TermSrc:   (*run).src,
		api.TermRef:   (*run).ref,
		api.TermPrev:  (*run).prev,
		api.TermBoth:  (*run).both,
		api.TermWhere: (*run).where,
		api.TermEach:  (*run).each,
		api.TermShift: (*run).shift,
		api.TermGroup: (*run).group,
		api.TermSlide: (*run).slide,
		api.TermTotal: (*run).total,
		api.TermRest:  (*run).rest,
		api.TermPair:  (*run).pair,
		api.TermAsof:  (*run).asof,
		api.TermLack:  (*run).lack,
		api.TermOnce:  (*run).once,
	}
}

func (r *run) src(x *node, w window) []api.BagItem {
	return r.srcs[slices.Index(r.Srcs, x.Name)].in(w)
}

func (r *run) ref(x *node, w window) []api.BagItem { return r.answer(x.Name).in(w) }

func (r *run) prev(x *node, w window) []api.BagItem { return later(r.answer(x.Name), x.N, w) }

func (r *run) both(x *node, w window) []api.BagItem {
	return slices.Concat(x.kid(0).in(w), x.kid(1).in(w))
}

func (r *run) where(x *node, w window) []api.BagItem {
	var out []api.BagItem
	for _, y := range x.kid(0).in(w) {
		if x.values[0](y.Rec, 0) != 0 {
			out = append(out, y)
		}
	}
	return out
}

func (r *run) each(x *node, w window) []api.BagItem {
	return changed(x.kid(0).in(w), func(y api.BagItem) api.BagItem {
		key, val := x.values[0](y.Rec, 0), x.values[1](y.Rec, 0)
		return api.BagItem{Rec: api.Rec{At: y.Rec.At, Key: key, Val: val}, N: y.N}
	})
}

func (r *run) shift(x *node, w window) []api.BagItem { return later(x.kid(0), x.N, w) }

// group makes the record of a window of N when it comes to its first records.
func (r *run) group(x *node, w window) []api.BagItem {
	var out []api.BagItem
	kid := x.kid(0)
	for at, key := range kid.moments(window{w.from - x.N + 1, w.to}) {
		start := at - at%x.N
		end := start + x.N - 1
		if w.has(end) && !kid.has(key, window{start, at - 1}) {
			out = append(out, x.fold(end, key, window{start, end}))
		}
	}
	return out
}

func (r *run) slide(x *node, w window) []api.BagItem { return upTo(x, w, x.N) }

func (r *run) total(x *node, w window) []api.BagItem { return upTo(x, w, api.RecTime) }

// rest makes the record of a session when it comes to its last records.
func (r *run) rest(x *node, w window) []api.BagItem {
	var out []api.BagItem
	kid := x.kid(0)
	for at, key := range kid.moments(w.before(x.N)) {
		if !kid.has(key, window{at + 1, at + x.N}) {
			out = append(out, x.fold(at+x.N, key, window{start(kid, key, at, x.N), at}))
		}
	}
	return out
}

// pair asks for such partners alone that the greater time is in the window.
func (r *run) pair(x *node, w window) []api.BagItem {
	var out []api.BagItem
	for _, y := range x.kid(0).in(window{w.from - x.N, w.to}) {
		partners := window{y.Rec.At - x.N, min(y.Rec.At+x.N, w.to)}
		if y.Rec.At < w.from {
			partners.from = w.from
		}
		for z := range x.kid(1).of(y.Rec.Key, partners) {
			met := api.Rec{At: max(y.Rec.At, z.Rec.At), Key: y.Rec.Key, Val: y.Rec.Val}
			met.Val = x.values[0](met, z.Rec.Val)
			out = append(out, api.BagItem{Rec: met, N: y.N * z.N})
		}
	}
	return out
}

func (r *run) asof(x *node, w window) []api.BagItem {
	var out []api.BagItem
	for _, y := range x.kid(0).in(w) {
		if last, found := x.kid(1).last(y.Rec.Key, y.Rec.At); found {
			val := x.values[0](y.Rec, last.Val)
			out = append(out, api.BagItem{Rec: api.Rec{At: y.Rec.At, Key: y.Rec.Key, Val: val}, N: y.N})
		}
	}
	return out
}

func (r *run) lack(x *node, w window) []api.BagItem {
	var out []api.BagItem
	for _, y := range x.kid(0).in(w) {
		if !x.kid(1).has(y.Rec.Key, window{y.Rec.At - x.N, y.Rec.At + x.N}) {
			out = append(out, y)
		}
	}
	return out
}

func (r *run) once(x *node, w window) []api.BagItem {
	return changed(x.kid(0).in(w), func(y api.BagItem) api.BagItem { return api.BagItem{Rec: y.Rec, N: 1} })
}

// later are the records that come into a window n later.
func later(k known, n int, w window) []api.BagItem {
	return changed(k.in(w.before(n)), func(y api.BagItem) api.BagItem {
		y.Rec.At += n
		return y
	})
}

// upTo are, for each time in a window and each key with records, the Fold of those from some time back up to then.
func upTo(x *node, w window, back int) []api.BagItem {
	var out []api.BagItem
	for at, key := range x.kid(0).moments(w) {
		out = append(out, x.fold(at, key, window{at - back, at}))
	}
	return out
}

// start is the first time of the session to which a time of a key belongs.
func start(k known, key, at, apart int) int {
	for {
		r, found := k.last(key, at-1)
		if !found || at-r.At > apart {
			return at
		}
		at = r.At
	}
}
