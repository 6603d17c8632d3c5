package date

import (
	"slices"

	"afterword/api"
)

// edge is where a span of one of two lists begins or ends.
type edge struct {
	at     int
	second bool
	begins bool
}

// inside tells of which of two normal lists a place is.
type inside [2]bool

// Normal returns the normal list of the days that any of some spans has.
func Normal(l []api.DateSpan) ([]api.DateSpan, api.Errno) {
	if !isList(l) {
		return nil, api.ErrArg
	}
	return sweep(edges(nil, l, false), countEdge, covered), api.OK
}

// Join returns the normal list of the days that any of two lists has.
func Join(a, b []api.DateSpan) ([]api.DateSpan, api.Errno) {
	return combine(a, b, func(in inside) bool { return in[0] || in[1] })
}

// Meet returns the normal list of the days that both lists have.
func Meet(a, b []api.DateSpan) ([]api.DateSpan, api.Errno) {
	return combine(a, b, func(in inside) bool { return in[0] && in[1] })
}

// Cut returns the normal list of the days that the first list has and the second one has not.
func Cut(a, b []api.DateSpan) ([]api.DateSpan, api.Errno) {
	return combine(a, b, func(in inside) bool { return in[0] && !in[1] })
}

func combine(a, b []api.DateSpan, wanted func(inside) bool) ([]api.DateSpan, api.Errno) {
	if !isNormal(a) || !isNormal(b) {
		return nil, api.ErrArg
	}
	out := sweep(edges(edges(nil, a, false), b, true), crossEdge, wanted)
	if len(out) > api.DateSpans {
		return nil, api.ErrLong
	}
	return out, api.OK
}

// sweep passes all edges from the least place to the greatest one, with a state that tells what lies over a place.
// All edges of one place are passed before the state is looked at: so spans that touch become one.
func sweep[S any](list []edge, pass func(S, edge) S, wanted func(S) bool) []api.DateSpan {
	slices.SortFunc(list, func(x, y edge) int { return x.at - y.at })
	var state S
	var out []api.DateSpan
	open, from := false, 0
	for i, x := range list {
		state = pass(state, x)
		if i+1 < len(list) && list[i+1].at == x.at || wanted(state) == open {
			continue
		}
		if open {
			out = append(out, api.DateSpan{From: from, To: x.at})
		}
		open, from = !open, x.at
	}
	return out
}

// edges appends both ends of each span.
func edges(out []edge, l []api.DateSpan, second bool) []edge {
	for _, s := range l {
		out = append(out, edge{s.From, second, true}, edge{s.To, second, false})
	}
	return out
}

// countEdge counts the spans that are open: those of a list that is not normal may lie over each other.
func countEdge(open int, x edge) int {
	if x.begins {
		return open + 1
	}
	return open - 1
}

func covered(open int) bool { return open > 0 }

// crossEdge needs no count: the spans of a normal list do not even touch.
func crossEdge(in inside, x edge) inside {
	if x.second {
		in[1] = x.begins
	} else {
		in[0] = x.begins
	}
	return in
}

func isSpan(s api.DateSpan) bool {
	return -api.DateMost <= s.From && s.From < s.To && s.To <= api.DateMost
}

func isList(l []api.DateSpan) bool {
	if len(l) > api.DateSpans {
		return false
	}
	for _, s := range l {
		if !isSpan(s) {
			return false
		}
	}
	return true
}

func isNormal(l []api.DateSpan) bool {
	if !isList(l) {
		return false
	}
	for i := 1; i < len(l); i++ {
		if l[i].From <= l[i-1].To {
			return false
		}
	}
	return true
}
