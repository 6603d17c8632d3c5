package hist_test

import (
	"math/rand/v2"
	"slices"
	"testing"

	"afterword/api"
	"afterword/hist"
)

// P5.3: the example's step, and others of it.
func TestStepExample(t *testing.T) {
	n := example()
	for i, want := range [][2][]api.Event{
		{nil, {event(0, 1, 10, 1, 5)}}, {nil, {event(1, 1, 4, 1, 2)}}, {nil, {event(0, 2, 12, 1, 7)}}, {},
		{{event(0, 1, 10, 1, 5)}, {event(0, 1, 10, 1, 6)}}, {{event(1, 1, 4, 1, 2)}, nil}, {}, {},
	} {
		was, is, e := hist.Step(n[:i], 2, n[i])
		mustBe(t, e == api.OK && equal(was, want[0]) && equal(is, want[1]), i, was, is, e)
	}
}

// P5.3: what changes nothing, and what changes something.
func TestStep(t *testing.T) {
	l := []api.News{say(0, 1, 2, 5, 6, 7), gone(0, 2, 2), say(1, 1, 2, 5, 6, 7)}
	was1 := []api.Event{event(0, 1, 5, 6, 7)}
	for _, x := range []struct {
		n       api.News
		was, is []api.Event
	}{
		{mark(0, 0), nil, nil}, {mark(0, 201), nil, nil}, {l[0], nil, nil}, {l[1], nil, nil},
		{say(0, 1, 1, 9, 9, 9), nil, nil}, {gone(0, 1, 1), nil, nil}, {say(0, 1, 3, 5, 6, 7), nil, nil}, {say(0, 2, 1, 5, 6, 7), nil, nil},
		{gone(0, 2, 3), nil, nil}, {gone(0, 3, 1), nil, nil}, {say(0, 1, 3, 4, 6, 7), was1, []api.Event{event(0, 1, 4, 6, 7)}},
		{say(0, 1, 3, 5, 5, 7), was1, []api.Event{event(0, 1, 5, 5, 7)}}, {say(0, 1, 99, 5, 6, 8), was1, []api.Event{event(0, 1, 5, 6, 8)}},
		{gone(0, 1, 3), was1, nil}, {say(0, 2, 3, 0, 0, 0), nil, []api.Event{event(0, 2, 0, 0, 0)}}, {say(0, 0, 1, 0, 0, 0), nil, []api.Event{event(0, 0, 0, 0, 0)}},
		{say(1, 2, 1, 1, 1, 1), nil, []api.Event{event(1, 2, 1, 1, 1)}},
	} {
		was, is, e := hist.Step(l, 2, x.n)
		mustBe(t, e == api.OK && equal(was, x.was) && equal(is, x.is), x, was, is, e)
	}
}

// P5.3: a step is refused if the list with the one more is not formed.
func TestStepRefused(t *testing.T) {
	refuse := func(l []api.News, srcs int, n api.News) {
		t.Helper()
		was, is, e := hist.Step(l, srcs, n)
		mustBe(t, len(was) == 0 && len(is) == 0 && e == api.ErrArg, l, srcs, n, was, is, e)
	}
	for _, n := range badNews() {
		refuse(nil, 2, n)
		refuse(example(), 2, n)
	}
	for _, l := range clashing() {
		refuse(l[:len(l)-1], 2, l[len(l)-1])
	}
	refuse(example(), 2, say(1, 1, 3, 4, 1, 2))
	refuse(wide(60), 2, mark(0, 1))
	refuse(wide(60), 2, wide(60)[0])
	refuse(nil, 0, mark(0, 1))
	refuse(nil, 5, mark(0, 1))
	_, is, e := hist.Step(wide(59), 2, say(0, 900, 1, 1, 1, 1))
	mustBe(t, e == api.OK && equal(is, []api.Event{event(0, 900, 1, 1, 1)}), is, e)
}

// P5.3: what stands after news is what stood before, with what each one changes.
func TestStepByStep(t *testing.T) {
	worlds(54, 800, func(r *rand.Rand, w world, srcs, most int) {
		l := w.list(r, srcs, most)
		var now []api.Event
		for i, n := range l {
			was, is, e := hist.Step(l[:i], srcs, n)
			before, after := changed(l[:i], n)
			mustBe(t, e == api.OK && equal(was, before) && equal(is, after), l[:i+1], was, is, e)
			for _, x := range was {
				at := slices.Index(now, x)
				mustBe(t, at >= 0, x, "did not stand")
				now = slices.Delete(now, at, at+1)
			}
			now = append(now, is...)
		}
		events, _ := hist.Stands(l, srcs)
		mustBe(t, len(now) == len(events), l, now, events)
		for _, x := range events {
			mustBe(t, slices.Contains(now, x), l, now, events)
		}
	})
}

// P5.3: the example's late news, and lists that just keep their marks or just do not.
func TestLate(t *testing.T) {
	for _, x := range []struct {
		l    []api.News
		want []int
	}{
		{nil, nil}, {example(), []int{4}}, {example()[:4], nil},
		{[]api.News{mark(0, 5), say(0, 1, 1, 5, 0, 0)}, nil},
		{[]api.News{mark(0, 5), say(0, 1, 1, 4, 0, 0)}, []int{1}},
		{[]api.News{say(0, 1, 1, 4, 0, 0), mark(0, 5)}, nil},
		{[]api.News{mark(1, 5), say(0, 1, 1, 4, 0, 0)}, nil},
		{[]api.News{mark(0, 5), mark(0, 3), say(0, 1, 1, 4, 0, 0)}, []int{2}},
		{[]api.News{say(0, 1, 1, 4, 0, 0), mark(0, 5), say(0, 1, 2, 6, 0, 0)}, []int{2}},
		{[]api.News{say(0, 1, 1, 6, 0, 0), mark(0, 5), say(0, 1, 2, 4, 0, 0)}, []int{2}},
		{[]api.News{say(0, 1, 1, 5, 0, 0), mark(0, 5), say(0, 1, 2, 6, 0, 0), gone(0, 1, 3)}, nil},
		{[]api.News{say(0, 1, 1, 4, 0, 0), mark(0, 5), gone(0, 1, 2)}, []int{2}},
		{[]api.News{say(0, 1, 1, 4, 0, 0), mark(0, 5), say(0, 1, 2, 4, 0, 0), say(0, 1, 1, 4, 0, 0)}, nil},
		{[]api.News{gone(0, 1, 2), mark(0, 5), say(0, 1, 1, 4, 0, 0), gone(0, 1, 3), gone(0, 2, 1)}, nil},
		{[]api.News{mark(0, 201), say(0, 1, 1, 200, 0, 0), say(0, 1, 1, 200, 0, 0), say(0, 2, 1, 0, 0, 0)}, []int{1, 3}},
		{[]api.News{mark(0, 200), say(0, 1, 1, 200, 0, 0), mark(0, 201), mark(0, 1)}, nil},
	} {
		late, e := hist.Late(x.l, 2)
		mustBe(t, e == api.OK && equal(late, x.want), x, late, e)
		keeps, e := hist.Keeps(x.l, 2)
		mustBe(t, e == api.OK && keeps == (len(x.want) == 0), x, keeps, e)
	}
}

// P5.3: what the definition says of random lists.
func TestLateAny(t *testing.T) {
	some := 0
	worlds(55, 1500, func(r *rand.Rand, w world, srcs, most int) {
		l := w.list(r, srcs, most)
		want := late(l)
		numbers, e := hist.Late(l, srcs)
		mustBe(t, e == api.OK && equal(numbers, want), l, numbers, want, e)
		keeps, e := hist.Keeps(l, srcs)
		mustBe(t, e == api.OK && keeps == (len(want) == 0), l, keeps, e)
		some += min(1, len(want))
	})
	mustBe(t, some > 100 && some < 1400, some)
}
