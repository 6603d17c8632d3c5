package hist_test

import (
	"math/rand/v2"
	"slices"
	"testing"

	"afterword/api"
	"afterword/hist"
)

// checkStands asks for what the definition says of a list that is formed.
func checkStands(t *testing.T, l []api.News, srcs int) {
	t.Helper()
	events, e := hist.Stands(l, srcs)
	mustBe(t, e == api.OK && equal(events, stands(l)), l, srcs, events, e)
	numbers, e := hist.Marks(l, srcs)
	mustBe(t, e == api.OK && equal(numbers, marks(l, srcs)), l, srcs, numbers, e)
}

// P5.2: the example, in each order of its news.
func TestStandsExample(t *testing.T) {
	var try func(done, rest []api.News)
	try = func(done, rest []api.News) {
		if len(rest) == 0 {
			events, e := hist.Stands(done, 2)
			mustBe(t, e == api.OK && equal(events, []api.Event{event(0, 1, 10, 1, 6), event(0, 2, 12, 1, 7)}), done, events, e)
			marks, e := hist.Marks(done, 2)
			mustBe(t, e == api.OK && equal(marks, []int{11, 5}), done, marks, e)
		}
		for i, n := range rest {
			try(append(slices.Clone(done), n), slices.Concat(rest[:i], rest[i+1:]))
		}
	}
	try(nil, example())
}

// P5.2: versions, withdrawals and events that come again.
func TestStandsVersions(t *testing.T) {
	for _, x := range []struct {
		l    []api.News
		want []api.Event
	}{
		{nil, nil},
		{[]api.News{mark(0, 201)}, nil},
		{[]api.News{gone(0, 1, 1)}, nil},
		{[]api.News{say(0, 1, 1, 0, 0, 0)}, []api.Event{event(0, 1, 0, 0, 0)}},
		{[]api.News{say(0, 1, 1, 5, 0, 0), gone(0, 1, 2)}, nil},
		{[]api.News{gone(0, 1, 2), say(0, 1, 1, 5, 0, 0)}, nil},
		{[]api.News{gone(0, 1, 2), say(0, 1, 3, 5, 0, 0)}, []api.Event{event(0, 1, 5, 0, 0)}},
		{[]api.News{say(0, 1, 9, 5, 0, 0), say(0, 1, 10, 6, 0, 0), say(0, 1, 2, 7, 0, 0)}, []api.Event{event(0, 1, 6, 0, 0)}},
		{[]api.News{say(0, 1, 1, 5, 0, 0), gone(1, 1, 2), gone(0, 2, 2)}, []api.Event{event(0, 1, 5, 0, 0)}},
		{[]api.News{say(0, 1, 1, 5, 0, 0), mark(0, 3), mark(0, 9)}, []api.Event{event(0, 1, 5, 0, 0)}},
		{edgeNews(), []api.Event{event(0, 0, 200, 1, 1), event(1, 999, 200, 1000000000, -1000000000)}},
	} {
		events, e := hist.Stands(x.l, 2)
		mustBe(t, e == api.OK && equal(events, x.want), x, events, e)
	}
}

// P5.2: right order is by the times, then the sources, then the numbers, whatever the keys and values are.
func TestStandsOrder(t *testing.T) {
	want := []api.Event{
		event(0, 999, 0, 5, 5), event(0, 3, 7, 9, 9), event(0, 20, 7, 8, 8), event(0, 100, 7, 7, 7), event(1, 1, 7, 6, 6), event(1, 2, 7, -1, -1),
		event(2, 0, 7, 0, 0), event(3, 0, 8, 0, 0), event(0, 1, 9, 0, 0), event(1, 0, 100, 0, 0), event(2, 7, 100, 0, 0), event(0, 4, 200, -9, 0),
	}
	var l []api.News
	for _, e := range want {
		l = append(l, api.News{Do: api.NewsSay, Src: e.Src, Id: e.Id, Ver: 1, Rec: e.Rec})
	}
	r := rand.New(rand.NewPCG(52, 5))
	for range 200 {
		r.Shuffle(len(l), func(i, j int) { l[i], l[j] = l[j], l[i] })
		events, e := hist.Stands(l, 4)
		mustBe(t, e == api.OK && equal(events, want), l, events, e)
	}
}

// P5.2: the mark is the greatest one, of its own source.
func TestMarks(t *testing.T) {
	for _, x := range []struct {
		l    []api.News
		srcs int
		want []int
	}{
		{nil, 1, []int{0}}, {nil, 4, []int{0, 0, 0, 0}}, {[]api.News{mark(0, 0)}, 1, []int{0}},
		{[]api.News{mark(0, 7), mark(0, 3)}, 2, []int{7, 0}}, {[]api.News{mark(0, 3), mark(0, 7), mark(0, 7)}, 2, []int{7, 0}},
		{[]api.News{mark(3, 201), mark(1, 1), mark(1, 2)}, 4, []int{0, 2, 0, 201}},
		{[]api.News{say(0, 1, 1, 90, 0, 0), gone(1, 1, 1), mark(1, 5)}, 3, []int{0, 5, 0}},
	} {
		marks, e := hist.Marks(x.l, x.srcs)
		mustBe(t, e == api.OK && equal(marks, x.want), x, marks, e)
	}
}

// P5.2, P0.1: the order of the news, and how often they are heard, change nothing.
func TestStandsAnyOrder(t *testing.T) {
	worlds(53, 1500, func(r *rand.Rand, w world, srcs, most int) {
		l := w.list(r, srcs, most)
		checkStands(t, l, srcs)
		other := slices.Clone(l)
		for range r.IntN(most) {
			if len(l) > 0 {
				other = append(other, pick(r, l))
			}
		}
		r.Shuffle(len(other), func(i, j int) { other[i], other[j] = other[j], other[i] })
		a, e := hist.Stands(l, srcs)
		b, f := hist.Stands(other, srcs)
		mustBe(t, e == api.OK && f == api.OK && equal(a, b), l, other, a, b)
		m, e := hist.Marks(l, srcs)
		n, f := hist.Marks(other, srcs)
		mustBe(t, e == api.OK && f == api.OK && equal(m, n), l, other, m, n)
	})
	checkStands(t, wide(60), 2)
}
