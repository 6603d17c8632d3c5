package lag

import "afterword/api"

// lag is a lag about one source; the zero one is off.
type lag api.Lag

// does tells what a node makes of the lag of what it names, or of its first Kid, with its N and the lag of its second Kid (off, if it has none).
type does func(l lag, n int, second lag) lag

// doings holds what the kinds of expressions do.
func doings() map[api.TermOp]does {
	return map[api.TermOp]does{
		api.TermSrc:   lag.same,
		api.TermRef:   lag.same,
		api.TermPrev:  lag.later,
		api.TermBoth:  lag.both,
		api.TermWhere: lag.same,
		api.TermEach:  lag.same,
		api.TermShift: lag.later,
		api.TermGroup: lag.group,
		api.TermSlide: lag.slide,
		api.TermTotal: lag.total,
		api.TermRest:  lag.total,
		api.TermPair:  lag.pair,
		api.TermAsof:  lag.asof,
		api.TermLack:  lag.lack,
		api.TermOnce:  lag.same,
	}
}

func (l lag) same(int, lag) lag { return l }

func (l lag) later(n int, _ lag) lag { return l.further(n, -n) }

func (l lag) both(_ int, second lag) lag { return l.with(second) }

func (l lag) group(n int, _ lag) lag { return l.further(n-1, 0) }

func (l lag) slide(n int, _ lag) lag { return l.further(n, 0) }

func (l lag) total(int, lag) lag { return l.fromBeginning() }

func (l lag) pair(n int, second lag) lag { return l.with(second).further(n, 0) }

func (l lag) asof(_ int, second lag) lag { return l.with(second.fromBeginning()) }

func (l lag) lack(n int, second lag) lag { return l.with(second.further(n, n)) }

// with is two lags together.
func (l lag) with(m lag) lag {
	switch {
	case !l.On:
		return m
	case !m.On:
		return l
	}
	out := lag{On: true, Ever: l.Ever || m.Ever, Ahead: max(l.Ahead, m.Ahead)}
	if !out.Ever {
		out.Back = max(l.Back, m.Back)
	}
	return out
}

func (l lag) further(back, ahead int) lag {
	if !l.On {
		return l
	}
	if !l.Ever {
		l.Back += back
	}
	l.Ahead += ahead
	return l
}

func (l lag) fromBeginning() lag {
	if !l.On {
		return l
	}
	return lag{On: true, Ever: true, Ahead: l.Ahead}
}

// mark is the one that is needed for a time.
func (l lag) mark(at int) int {
	if !l.On {
		return 0
	}
	return max(0, min(at+l.Ahead, api.RecTime)+1)
}

// touched are the first and the last time whose answers an event at a time touches, if it touches any.
func (l lag) touched(at int) (first, last int, touches bool) {
	first, last = max(0, at-l.Ahead), api.RecTime
	if !l.Ever {
		last = min(at+l.Back, api.RecTime)
	}
	return first, last, l.On && first <= last
}
