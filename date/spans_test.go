package date_test

import (
	"math"
	"math/rand"
	"slices"
	"testing"

	"afterword/api"
	"afterword/date"
)

func span(from, to int) api.DateSpan { return api.DateSpan{From: from, To: to} }

func spans(l ...api.DateSpan) []api.DateSpan { return l }

// listOf is the normal list of a set of days, given as bits.
func listOf(set int) []api.DateSpan {
	var out []api.DateSpan
	for n := range 64 {
		switch {
		case set>>n&1 == 0:
		case n > 0 && set>>(n-1)&1 == 1:
			out[len(out)-1].To = n + 1
		default:
			out = append(out, span(n, n+1))
		}
	}
	return out
}

// every are n spans of a day each, with gaps of some days between them.
func every(n, from, step int) []api.DateSpan {
	var out []api.DateSpan
	for i := range n {
		out = append(out, span(from+i*step, from+i*step+1))
	}
	return out
}

// P1.4: the chapter's examples.
func TestSpanExamples(t *testing.T) {
	if l, e := date.Join(spans(span(1, 4), span(8, 9)), spans(span(4, 6))); !slices.Equal(l, spans(span(1, 6), span(8, 9))) || e != api.OK {
		t.Error(l, e)
	}
	if l, e := date.Cut(spans(span(1, 9)), spans(span(3, 4), span(8, 20))); !slices.Equal(l, spans(span(1, 3), span(4, 8))) || e != api.OK {
		t.Error(l, e)
	}
}

// P1.4: all pairs of sets of seven days.
func TestSets(t *testing.T) {
	const sets = 1 << 7
	for a := range sets {
		for b := range sets {
			join, e := date.Join(listOf(a), listOf(b))
			meet, f := date.Meet(listOf(a), listOf(b))
			cut, g := date.Cut(listOf(a), listOf(b))
			if e != api.OK || f != api.OK || g != api.OK || !slices.Equal(join, listOf(a|b)) || !slices.Equal(meet, listOf(a&b)) || !slices.Equal(cut, listOf(a&^b)) {
				t.Fatal(a, b, join, meet, cut, e, f, g)
			}
		}
	}
}

// P1.4: Normal of spans in any order, over each other, doubled.
func TestNormal(t *testing.T) {
	r := rand.New(rand.NewSource(1))
	for range 20000 {
		var l []api.DateSpan
		set := 0
		for range r.Intn(8) {
			from := r.Intn(20)
			s := span(from, from+1+r.Intn(6))
			l = append(l, s)
			for n := s.From; n < s.To; n++ {
				set |= 1 << n
			}
		}
		before := slices.Clone(l)
		got, e := date.Normal(l)
		if e != api.OK || !slices.Equal(got, listOf(set)) || !slices.Equal(l, before) {
			t.Fatal(before, got, e)
		}
		again, e := date.Normal(got)
		if e != api.OK || !slices.Equal(got, again) {
			t.Fatal(got, again, e)
		}
	}
}

// P1.4: lists of as many spans as there may be, and results of more.
func TestSpanLimits(t *testing.T) {
	even, odd := every(api.DateSpans, 0, 4), every(api.DateSpans, 2, 4)
	wide := spans(span(-api.DateMost, api.DateMost))
	var gaps, left, right []api.DateSpan // left and right lap by turns
	for i := range api.DateSpans {
		gaps = append(gaps, span(4*i+1, 4*i+4))
		left, right = append(left, span(4*i, 4*i+3)), append(right, span(4*i+2, 4*i+5))
	}
	for i, x := range []struct {
		call func(a, b []api.DateSpan) ([]api.DateSpan, api.Errno)
		a, b []api.DateSpan
		want []api.DateSpan
		e    api.Errno
	}{
		{date.Join, even, nil, even, api.OK}, {date.Join, even, odd[:1], nil, api.ErrLong}, {date.Join, even[:30], odd[:30], every(60, 0, 2), api.OK}, {date.Join, even[:31], odd[:30], nil, api.ErrLong},
		{date.Join, even, wide, wide, api.OK}, {date.Meet, wide, even, even, api.OK}, {date.Meet, left, right, nil, api.ErrLong}, {date.Meet, left[:30], right[:31], every(60, 2, 2)[:59], api.OK},
		{date.Cut, even, odd, even, api.OK}, {date.Cut, wide, even, nil, api.ErrLong}, {date.Cut, spans(span(0, 240)), even, gaps, api.OK}, {date.Cut, spans(span(-1, 240)), even, nil, api.ErrLong}, {date.Cut, wide, wide, nil, api.OK},
	} {
		if got, e := x.call(x.a, x.b); !slices.Equal(got, x.want) || e != x.e {
			t.Error(i, got, e)
		}
	}
	if l, e := date.Normal(even); !slices.Equal(l, even) || e != api.OK {
		t.Error(l, e)
	}
	if l, e := date.Normal(wide); !slices.Equal(l, wide) || e != api.OK {
		t.Error(l, e)
	}
}

// P1.4: lists that are none, and such as are not normal.
func TestSpanErrors(t *testing.T) {
	call := map[string]func(a, b []api.DateSpan) ([]api.DateSpan, api.Errno){"Join": date.Join, "Meet": date.Meet, "Cut": date.Cut}
	none := [][]api.DateSpan{
		spans(span(3, 3)), spans(span(4, 3)), spans(span(0, 1), span(5, 4)), spans(span(-api.DateMost-1, 0)), spans(span(0, api.DateMost+1)), spans(span(math.MinInt, math.MaxInt)), spans(span(math.MaxInt, math.MinInt)), every(api.DateSpans+1, 0, 3),
	}
	other := [][]api.DateSpan{spans(span(1, 3), span(3, 5)), spans(span(1, 4), span(3, 5)), spans(span(5, 6), span(1, 2)), spans(span(1, 2), span(1, 2))}
	for i, l := range none {
		if got, e := date.Normal(l); len(got) > 0 || e != api.ErrArg {
			t.Error(i, got, e)
		}
	}
	for i, l := range append(none, other...) {
		for name, f := range call {
			for _, with := range [][]api.DateSpan{nil, spans(span(0, 9)), every(60, 1000, 3)} {
				got, e := f(l, with)
				back, g := f(with, l)
				if len(got) > 0 || len(back) > 0 || e != api.ErrArg || g != api.ErrArg {
					t.Error(name, i, got, back, e, g)
				}
			}
		}
	}
	for i, l := range other { // Normal asks for no order
		if got, e := date.Normal(l); len(got) == 0 || e != api.OK {
			t.Error(i, got, e)
		}
	}
}

// P1.4: arguments stay as they are, and results share no memory with them.
func TestSpanMemory(t *testing.T) {
	a, b := spans(span(1, 4), span(8, 9)), spans(span(20, 21))
	for i, f := range []func() ([]api.DateSpan, api.Errno){
		func() ([]api.DateSpan, api.Errno) { return date.Normal(a) },
		func() ([]api.DateSpan, api.Errno) { return date.Join(a, nil) },
		func() ([]api.DateSpan, api.Errno) { return date.Join(nil, a) },
		func() ([]api.DateSpan, api.Errno) { return date.Meet(a, a) },
		func() ([]api.DateSpan, api.Errno) { return date.Cut(a, b) },
	} {
		first, _ := f()
		want := slices.Clone(first)
		first[0] = span(-1, 99)
		second, _ := f()
		if !slices.Equal(second, want) || !slices.Equal(a, spans(span(1, 4), span(8, 9))) || !slices.Equal(b, spans(span(20, 21))) {
			t.Error(i, second, a, b)
		}
	}
}
