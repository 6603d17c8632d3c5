package date_test

import (
	"math"
	"math/rand"
	"slices"
	"testing"

	"afterword/api"
	"afterword/date"
)

// free is the set of all ways.
const free = 1<<14 - 2

// isWay reports whether a has a way to b, by the definition of this way alone.
func isWay(w api.DateWay, a, b api.DateSpan) bool {
	switch w {
	case api.DateBefore:
		return a.To < b.From
	case api.DateMeets:
		return a.To == b.From
	case api.DateLaps:
		return a.From < b.From && b.From < a.To && a.To < b.To
	case api.DateStarts:
		return a.From == b.From && a.To < b.To
	case api.DateDuring:
		return a.From > b.From && a.To < b.To
	case api.DateEnds:
		return a.From > b.From && a.To == b.To
	case api.DateSame:
		return a.From == b.From && a.To == b.To
	}
	return isWay(14-w, b, a)
}

// within are all spans with ends from 0 to less than n, in lexicographic order.
func within(n int) []api.DateSpan {
	var out []api.DateSpan
	for from := range n {
		for to := from + 1; to < n; to++ {
			out = append(out, span(from, to))
		}
	}
	return out
}

// P1.5: the chapter's examples.
func TestWayExamples(t *testing.T) {
	for i, x := range []struct {
		a, b api.DateSpan
		want api.DateWay
	}{
		{span(1, 4), span(2, 6), api.DateLaps}, {span(2, 6), span(1, 4), api.DateLapped}, {span(1, 4), span(4, 5), api.DateMeets},
	} {
		if w, e := date.Way(x.a, x.b); w != x.want || e != api.OK {
			t.Error(i, w, e)
		}
	}
	if l, e := date.Chain(api.DateStarts, api.DateDuring); !slices.Equal(l, []api.DateWay{api.DateDuring}) || e != api.OK {
		t.Error(l, e)
	}
	if l, e := date.Chain(api.DateMeets, api.DateMet); !slices.Equal(l, []api.DateWay{api.DateEnds, api.DateSame, api.DateEnded}) || e != api.OK {
		t.Error(l, e)
	}
}

// P1.5: two spans have just one way, and that of the other one to the one is 14 less it.
func TestWay(t *testing.T) {
	for _, a := range within(7) {
		for _, b := range within(7) {
			w, e := date.Way(a, b)
			back, f := date.Way(b, a)
			if e != api.OK || f != api.OK || w+back != 14 {
				t.Error(a, b, w, back, e, f)
			}
			for x := api.DateBefore; x <= api.DateAfter; x++ {
				if isWay(x, a, b) != (x == w) {
					t.Error(a, b, w, x)
				}
			}
		}
	}
}

// P1.5: Chain holds the ways of just those spans that there are; eight places are more than the ends of three spans need.
func TestChain(t *testing.T) {
	all := within(8)
	var seen [14][14][14]bool
	for _, a := range all {
		for _, b := range all {
			v, _ := date.Way(a, b)
			for _, c := range all {
				w, _ := date.Way(b, c)
				x, _ := date.Way(a, c)
				seen[v][w][x] = true
			}
		}
	}
	for v := api.DateBefore; v <= api.DateAfter; v++ {
		for w := api.DateBefore; w <= api.DateAfter; w++ {
			var want []api.DateWay
			for x := api.DateBefore; x <= api.DateAfter; x++ {
				if seen[v][w][x] {
					want = append(want, x)
				}
			}
			if got, e := date.Chain(v, w); !slices.Equal(got, want) || e != api.OK {
				t.Error(v, w, got, want, e)
			}
		}
	}
}

// P1.5: what is no span, and no way.
func TestWayErrors(t *testing.T) {
	good := span(1, 2)
	if w, e := date.Way(span(-api.DateMost, api.DateMost), good); w != api.DateHolds || e != api.OK {
		t.Error(w, e)
	}
	for _, s := range []api.DateSpan{{}, span(2, 2), span(3, 2), span(-api.DateMost-1, 2), span(1, api.DateMost+1), span(math.MinInt, math.MaxInt), span(math.MaxInt, math.MinInt)} {
		v, e := date.Way(s, good)
		w, f := date.Way(good, s)
		x, g := date.Way(s, s)
		if v != 0 || w != 0 || x != 0 || e != api.ErrArg || f != api.ErrArg || g != api.ErrArg {
			t.Error(s, v, w, x, e, f, g)
		}
	}
	for _, w := range []api.DateWay{0, 14, -1, math.MinInt, math.MaxInt} {
		l, e := date.Chain(w, 1)
		m, f := date.Chain(1, w)
		if len(l) > 0 || len(m) > 0 || e != api.ErrArg || f != api.ErrArg {
			t.Error(w, l, m, e, f)
		}
	}
}

// placed reports whether spans are placed by a net, by the definition.
func placed(net [][]int, l []api.DateSpan) bool {
	for i, row := range net {
		for j, set := range row {
			is := false
			for w := api.DateBefore; w <= api.DateAfter; w++ {
				is = is || set>>w&1 == 1 && isWay(w, l[i], l[j])
			}
			if !is {
				return false
			}
		}
	}
	return true
}

// firstOf tries all spans with ends from 0 to less than bound, in order.
func firstOf(net [][]int, bound int) ([]api.DateSpan, bool) {
	all := within(bound)
	l := make([]api.DateSpan, len(net))
	var try func(i int) bool
	try = func(i int) bool {
		if i == len(net) {
			return placed(net, l)
		}
		for _, s := range all {
			if l[i] = s; try(i + 1) {
				return true
			}
		}
		return false
	}
	is := try(0)
	return l, is
}

// P1.6: the first place of nets, by trying all; what can be placed at more places, can be placed at twice as many as there are spans.
func TestPlace(t *testing.T) {
	r := rand.New(rand.NewSource(2))
	for i := range 600 {
		n := 1 + i%3
		net := make([][]int, n)
		for a := range net {
			for b := range n {
				set := r.Intn(1<<14) & r.Intn(1<<14) & free
				if a == b || r.Intn(3) == 0 {
					set = free
				}
				net[a] = append(net[a], set)
			}
		}
		want, is := firstOf(net, 2*n)
		got, e := date.Place(net)
		if is && (e != api.OK || !slices.Equal(got, want)) || !is && (e != api.ErrNone || len(got) > 0) {
			t.Fatal(net, got, e, want, is)
		}
		if _, wider := firstOf(net, 2*n+1); wider != is {
			t.Fatal(net, is)
		}
	}
}

// P1.6: the nets of all the ways that four spans have: these can be placed, and not later than the spans whose ways they are.
func TestPlaceOfFour(t *testing.T) {
	r := rand.New(rand.NewSource(3))
	all := within(8)
	for range 300 {
		l := make([]api.DateSpan, api.DatePlace)
		for i := range l {
			l[i] = all[r.Intn(len(all))]
		}
		net := make([][]int, len(l))
		for i, a := range l {
			for _, b := range l {
				w, _ := date.Way(a, b)
				net[i] = append(net[i], 1<<w)
			}
		}
		got, e := date.Place(net)
		if e != api.OK || !placed(net, got) || slices.CompareFunc(got, l, compare) > 0 {
			t.Fatal(net, got, l, e)
		}
		net[r.Intn(4)][r.Intn(4)] = 0
		if got, e := date.Place(net); len(got) > 0 || e != api.ErrNone {
			t.Fatal(net, got, e)
		}
	}
}

func compare(a, b api.DateSpan) int {
	if a.From != b.From {
		return a.From - b.From
	}
	return a.To - b.To
}

// P1.6: the chapter's example, edges, and what is no net.
func TestPlaceEdges(t *testing.T) {
	full := func(n int) [][]int {
		var net [][]int
		for range n {
			net = append(net, slices.Repeat([]int{free}, n))
		}
		return net
	}
	for i, x := range []struct {
		net  [][]int
		want []api.DateSpan
		e    api.Errno
	}{
		{[][]int{{128, 4}, {4096, 128}}, spans(span(0, 1), span(1, 2)), api.OK},
		{nil, nil, api.OK}, {[][]int{}, nil, api.OK}, {full(4), slices.Repeat(spans(span(0, 1)), 4), api.OK},
		{[][]int{{free &^ 128}}, nil, api.ErrNone}, {[][]int{{128, 0}, {free, 128}}, nil, api.ErrNone}, {[][]int{{128, free}, {0, 128}}, nil, api.ErrNone}, {[][]int{{128, 4}, {2, 128}}, nil, api.ErrNone},
		{full(5), nil, api.ErrArg}, {[][]int{nil}, nil, api.ErrArg}, {[][]int{{free, free}}, nil, api.ErrArg}, {[][]int{{free}, {free}}, nil, api.ErrArg}, {[][]int{{free, free}, {free, free, free}}, nil, api.ErrArg},
		{[][]int{{1}}, nil, api.ErrArg}, {[][]int{{free + 1}}, nil, api.ErrArg}, {[][]int{{1 << 14}}, nil, api.ErrArg}, {[][]int{{-2}}, nil, api.ErrArg}, {[][]int{{math.MinInt}}, nil, api.ErrArg}, {[][]int{{math.MaxInt}}, nil, api.ErrArg},
		{[][]int{{0, 1}, {0, 0}}, nil, api.ErrArg},
	} {
		before := make([][]int, len(x.net))
		for i, row := range x.net {
			before[i] = slices.Clone(row)
		}
		if got, e := date.Place(x.net); !slices.Equal(got, x.want) || e != x.e {
			t.Error(i, got, e)
		}
		if !slices.EqualFunc(before, x.net, slices.Equal[[]int]) {
			t.Error(i, x.net)
		}
	}
}
