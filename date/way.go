package date

import "afterword/api"

// wayTurn less the way of one span to another one is that of the other one to it.
const wayTurn = 14

// Way returns the way of a to b.
func Way(a, b api.DateSpan) (api.DateWay, api.Errno) {
	if !isSpan(a) || !isSpan(b) {
		return 0, api.ErrArg
	}
	return wayOf(a, b), api.OK
}

// Chain returns all ways of a first span to a third one that follow of those by a second one.
func Chain(v, w api.DateWay) ([]api.DateWay, api.Errno) {
	if !isWay(v) || !isWay(w) {
		return nil, api.ErrArg
	}
	set := chainSet(v, w)
	var out []api.DateWay
	for x := api.DateBefore; x <= api.DateAfter; x++ {
		if hasWay(set, x) {
			out = append(out, x)
		}
	}
	return out, api.OK
}

// Place returns the first place of a net.
func Place(net [][]int) ([]api.DateSpan, api.Errno) {
	if !isNet(net) {
		return nil, api.ErrArg
	}
	out := firstPlace(net)
	if len(out) < len(net) {
		return nil, api.ErrNone
	}
	return out, api.OK
}

func isWay(w api.DateWay) bool { return api.DateBefore <= w && w <= api.DateAfter }

func isNet(net [][]int) bool {
	const all = 1<<(api.DateAfter+1) - 1<<api.DateBefore
	if len(net) > api.DatePlace {
		return false
	}
	for _, row := range net {
		if len(row) != len(net) {
			return false
		}
		for _, set := range row {
			if set&^all != 0 {
				return false
			}
		}
	}
	return true
}

func hasWay(set int, w api.DateWay) bool { return set>>w&1 == 1 }

// wayOf asks the other way round if none of the first seven ways is there: one of these is that of b to a then.
func wayOf(a, b api.DateSpan) api.DateWay {
	switch {
	case a == b:
		return api.DateSame
	case a.To < b.From:
		return api.DateBefore
	case a.To == b.From:
		return api.DateMeets
	case a.From < b.From && b.From < a.To && a.To < b.To:
		return api.DateLaps
	case a.From == b.From && a.To < b.To:
		return api.DateStarts
	case a.From > b.From && a.To < b.To:
		return api.DateDuring
	case a.From > b.From && a.To == b.To:
		return api.DateEnds
	}
	return wayTurn - wayOf(b, a)
}

// chainSet tries all orders that the ends of three spans can have: six places are enough for them.
func chainSet(v, w api.DateWay) int {
	set := 0
	spans := spansWithin(6)
	for _, b := range spans {
		for _, a := range spans {
			if wayOf(a, b) != v {
				continue
			}
			for _, c := range spans {
				if wayOf(b, c) == w {
					set |= 1 << wayOf(a, c)
				}
			}
		}
	}
	return set
}

// spansWithin are all spans whose ends are from 0 to less than a bound, in lexicographic order.
func spansWithin(bound int) []api.DateSpan {
	var out []api.DateSpan
	for from := range bound {
		for to := from + 1; to < bound; to++ {
			out = append(out, api.DateSpan{From: from, To: to})
		}
	}
	return out
}

// firstPlace places span by span, each one as early as it can be, and goes back to the one before if there is nowhere left.
// It has fewer spans than the net if there is no place.
func firstPlace(net [][]int) []api.DateSpan {
	spans := spansWithin(2 * len(net))
	var tried [api.DatePlace + 1]int // by the number of spans that are placed: how many are tried behind them
	var out []api.DateSpan
search:
	for len(out) < len(net) {
		at := len(out)
		for tried[at] < len(spans) {
			next := spans[tried[at]]
			tried[at]++
			if fits(net, out, next) {
				out = append(out, next)
				tried[at+1] = 0
				continue search
			}
		}
		if at == 0 {
			break search
		}
		out = out[:at-1]
	}
	return out
}

// fits reports whether a span may be the next one behind those that are placed.
func fits(net [][]int, placed []api.DateSpan, next api.DateSpan) bool {
	at := len(placed)
	if !hasWay(net[at][at], api.DateSame) {
		return false
	}
	for i, s := range placed {
		if !hasWay(net[i][at], wayOf(s, next)) || !hasWay(net[at][i], wayOf(next, s)) {
			return false
		}
	}
	return true
}
