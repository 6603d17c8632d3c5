package hist_test

import (
	"math/rand/v2"
	"slices"
	"testing"

	"afterword/api"
	"afterword/hist"
)

// P5.4: the example's least list, and those of others.
func TestLeast(t *testing.T) {
	n := example()
	for _, x := range []struct{ l, want []api.News }{
		{nil, nil}, {n, []api.News{n[4], n[2], n[3], n[5], n[7]}},
		{[]api.News{mark(0, 0)}, nil}, {[]api.News{mark(1, 3), mark(1, 4), mark(0, 0), mark(1, 1)}, []api.News{mark(1, 4)}},
		{[]api.News{gone(0, 1, 1)}, []api.News{gone(0, 1, 1)}}, {[]api.News{say(0, 1, 1, 5, 0, 0), gone(0, 1, 2)}, []api.News{gone(0, 1, 2)}},
		{[]api.News{mark(0, 1), say(0, 3, 1, 1, 1, 1), say(0, 0, 1, 9, 9, 9), say(0, 2, 1, 5, 5, 5)}, []api.News{say(0, 0, 1, 9, 9, 9), say(0, 2, 1, 5, 5, 5), say(0, 3, 1, 1, 1, 1), mark(0, 1)}},
		{[]api.News{mark(1, 2), say(1, 0, 1, 0, 0, 0), mark(0, 1), say(0, 999, 1, 7, 7, 7)}, []api.News{say(0, 999, 1, 7, 7, 7), mark(0, 1), say(1, 0, 1, 0, 0, 0), mark(1, 2)}},
		{slices.Repeat([]api.News{say(0, 1, 1, 1, 1, 1)}, 60), []api.News{say(0, 1, 1, 1, 1, 1)}},
	} {
		l, e := hist.Least(x.l, 2)
		mustBe(t, e == api.OK && equal(l, x.want), x, l, e)
	}
	l, e := hist.Least(wide(60), 2)
	mustBe(t, e == api.OK && equal(l, least(wide(60))) && len(l) == 60, l, e)
}

// P5.4: a least list is formed, says the same, is no longer than the list, and is its own.
func TestLeastAny(t *testing.T) {
	worlds(56, 400, func(r *rand.Rand, w world, srcs, most int) {
		l := w.list(r, srcs, most)
		small, e := hist.Least(l, srcs)
		mustBe(t, e == api.OK && equal(small, least(l)), l, small, e)
		same, e := hist.Same(l, small, srcs)
		mustBe(t, same && e == api.OK && hist.Check(small, srcs) == api.OK && len(small) <= len(l), l, small)
		again, e := hist.Least(small, srcs)
		mustBe(t, e == api.OK && equal(small, again), small, again)
		a, _ := hist.Stands(l, srcs)
		b, _ := hist.Stands(small, srcs)
		mustBe(t, equal(a, b), l, small)
	})
}

// P5.4: no list that lacks some of the news says the same and is shorter than the least one.
func TestLeastIsLeast(t *testing.T) {
	r := rand.New(rand.NewPCG(57, 5))
	for range 40 {
		l := newWorld(2, 2, 3).list(r, 2, 7)
		least, _ := hist.Least(l, 2)
		for set := range 1 << len(l) {
			var part []api.News
			for i, n := range l {
				if set>>i&1 == 1 {
					part = append(part, n)
				}
			}
			same, e := hist.Same(l, part, 2)
			mustBe(t, e == api.OK && (!same || len(part) >= len(least)), l, part, least)
		}
	}
}

// P5.4: lists that say the same, and lists that nearly do.
func TestSame(t *testing.T) {
	n := example()
	for _, x := range []struct {
		a, b []api.News
		want bool
	}{
		{nil, nil, true}, {nil, []api.News{mark(0, 0), mark(1, 0)}, true}, {nil, []api.News{mark(0, 1)}, false}, {nil, []api.News{gone(0, 1, 1)}, false},
		{n, []api.News{n[7], n[5], n[3], n[4], n[2]}, true}, {n, n[:7], false}, {n, n[1:], true}, {n, slices.Delete(slices.Clone(n), 2, 3), false},
		{[]api.News{mark(0, 2)}, []api.News{mark(0, 1), mark(0, 2)}, true}, {[]api.News{mark(0, 2)}, []api.News{mark(1, 2)}, false}, {[]api.News{mark(0, 2)}, []api.News{mark(0, 3)}, false},
		{[]api.News{say(0, 1, 1, 5, 0, 0)}, []api.News{say(0, 1, 2, 5, 0, 0)}, false}, {[]api.News{gone(0, 1, 1)}, []api.News{gone(0, 1, 2)}, false},
		{[]api.News{say(0, 1, 1, 5, 0, 0)}, []api.News{say(0, 1, 1, 5, 0, 1)}, false}, {[]api.News{say(0, 1, 1, 5, 0, 0)}, []api.News{say(1, 1, 1, 5, 0, 0)}, false},
		{[]api.News{say(0, 1, 1, 5, 0, 0)}, []api.News{say(0, 2, 1, 5, 0, 0)}, false}, {[]api.News{say(0, 1, 1, 0, 0, 0)}, []api.News{gone(0, 1, 1)}, false},
		{[]api.News{say(0, 1, 1, 5, 0, 0), gone(0, 1, 9)}, []api.News{say(0, 1, 1, 6, 0, 0), gone(0, 1, 9)}, true},
	} {
		for _, pair := range [][2][]api.News{{x.a, x.b}, {x.b, x.a}} {
			same, e := hist.Same(pair[0], pair[1], 2)
			mustBe(t, same == x.want && e == api.OK, pair, same, e)
		}
	}
}

// P5.4: random lists say the same if their least lists are equal.
func TestSameAny(t *testing.T) {
	some := 0
	r := rand.New(rand.NewPCG(58, 5))
	for range 1500 {
		w := newWorld(2, 2, 2)
		a, b := w.list(r, 1, 6), w.list(r, 1, 6)
		same, e := hist.Same(a, b, 1)
		mustBe(t, e == api.OK && same == equal(least(a), least(b)), a, b, same, e)
		if same {
			some++
		}
	}
	mustBe(t, some > 20 && some < 1400, some)
}

// checkMerge asks for what the definition says of two lists that are formed.
func checkMerge(t *testing.T, a, b []api.News, srcs int) {
	t.Helper()
	l, e := hist.Merge(a, b, srcs)
	want := least(slices.Concat(a, b))
	switch {
	case len(allClashes(slices.Concat(a, b))) > 0:
		mustBe(t, len(l) == 0 && e == api.ErrRule, a, b, l, e)
	case len(want) > 60:
		mustBe(t, len(l) == 0 && e == api.ErrLong, a, b, l, e)
	default:
		mustBe(t, e == api.OK && equal(l, want) && hist.Check(l, srcs) == api.OK, a, b, l, e)
	}
}

// P5.4: both lists together, and one with itself or with none.
func TestMerge(t *testing.T) {
	n := example()
	for i := range len(n) + 1 {
		l, e := hist.Merge(n[i:], n[:i], 2)
		mustBe(t, e == api.OK && equal(l, least(n)), i, l, e)
	}
	l, e := hist.Merge(nil, nil, 1)
	mustBe(t, e == api.OK && len(l) == 0, l, e)
	worlds(59, 300, func(r *rand.Rand, w world, srcs, most int) {
		a, b, c := w.list(r, srcs, most), w.list(r, srcs, most), w.list(r, srcs, most)
		checkMerge(t, a, b, srcs)
		checkMerge(t, a, a, srcs)
		checkMerge(t, a, nil, srcs)
		ab, _ := hist.Merge(a, b, srcs)
		ba, _ := hist.Merge(b, a, srcs)
		mustBe(t, equal(ab, ba), a, b, ab, ba)
		bc, _ := hist.Merge(b, c, srcs)
		left, e := hist.Merge(ab, c, srcs)
		right, f := hist.Merge(a, bc, srcs)
		mustBe(t, e == f && equal(left, right), a, b, c)
	})
}

// P5.4: lists of which some clash, also where a later version counts.
func TestMergeClash(t *testing.T) {
	for _, l := range clashing() {
		checkMerge(t, l[:1], l[1:], 2)
		checkMerge(t, l[1:], l[:1], 2)
		checkMerge(t, append(slices.Clone(l[:1]), gone(0, 1, 50)), append(slices.Clone(l[1:]), gone(0, 1, 50)), 2)
	}
	some := 0
	r := rand.New(rand.NewPCG(60, 5))
	for range 1000 {
		a, b := newWorld(3, 3, 2).list(r, 2, 4), newWorld(3, 3, 2).list(r, 2, 4)
		checkMerge(t, a, b, 2)
		if _, e := hist.Merge(a, b, 2); e == api.ErrRule {
			some++
		}
	}
	mustBe(t, some > 100 && some < 900, some)
}

// P5.4: together they are just as many as allowed, or one more.
func TestMergeLong(t *testing.T) {
	a := wide(60)
	marked := append(wide(59)[30:], mark(0, 3))
	for _, x := range []struct {
		a, b []api.News
		want api.Errno
	}{
		{a, a, api.OK}, {a, a[:30], api.OK}, {a[:30], a[30:], api.OK}, {a[:31], marked, api.OK}, {a, []api.News{mark(0, 0), gone(0, 0, 2)}, api.OK},
		{a, []api.News{mark(0, 1)}, api.ErrLong}, {a, []api.News{say(1, 0, 1, 1, 1, 1)}, api.ErrLong}, {a[:32], append(slices.Clone(marked), gone(1, 2, 1)), api.ErrLong},
		{a, slices.Concat(a[:59], []api.News{mark(1, 1)}), api.ErrLong}, {a, []api.News{mark(0, 1), gone(0, 0, 1)}, api.ErrRule}, {a, []api.News{gone(0, 0, 1)}, api.ErrRule},
	} {
		for _, pair := range [][2][]api.News{{x.a, x.b}, {x.b, x.a}} {
			checkMerge(t, pair[0], pair[1], 2)
			l, e := hist.Merge(pair[0], pair[1], 2)
			mustBe(t, e == x.want, pair, l, e)
		}
	}
}
