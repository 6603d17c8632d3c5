package hist_test

import (
	"math/rand/v2"
	"slices"
	"testing"

	"afterword/api"
	"afterword/hist"
)

// P5.1: each one of the news alone, and each number of sources.
func TestCheckOne(t *testing.T) {
	for _, n := range slices.Concat(badNews(), edgeNews(), example(), []api.News{say(2, 1, 1, 1, 1, 1), gone(3, 1, 1), mark(3, 201)}) {
		for srcs := -1; srcs <= 6; srcs++ {
			ok := hist.Check([]api.News{n}, srcs) == api.OK
			mustBe(t, ok == isFormed([]api.News{n}, srcs), n, srcs, ok)
		}
	}
	for _, n := range badNews() {
		mustBe(t, hist.Check([]api.News{n}, 2) == api.ErrArg, n)
	}
	mustBe(t, hist.Check(edgeNews(), 2) == api.OK && hist.Check(example(), 2) == api.OK, "edges")
}

// P5.1: lists that are not formed, long ones, and ones without news.
func TestCheckLists(t *testing.T) {
	for _, l := range badLists() {
		mustBe(t, hist.Check(l, 2) == api.ErrArg, l)
	}
	for _, srcs := range badSrcs {
		mustBe(t, hist.Check(nil, srcs) == api.ErrArg && hist.Check(example(), srcs) == api.ErrArg, srcs)
	}
	for srcs := 1; srcs <= 4; srcs++ {
		mustBe(t, hist.Check(nil, srcs) == api.OK, srcs)
	}
	mustBe(t, hist.Check(wide(60), 2) == api.OK && hist.Check(wide(60), 1) == api.ErrArg, "60")
	mustBe(t, hist.Check(slices.Repeat([]api.News{say(0, 1, 1, 1, 1, 1)}, 60), 1) == api.OK, "doubled")
}

// P5.1: what does not clash, however much is the same.
func TestNoClash(t *testing.T) {
	x := say(0, 1, 1, 1, 1, 1)
	for _, y := range []api.News{x, say(1, 1, 1, 2, 1, 1), say(0, 2, 1, 2, 1, 1), say(0, 1, 2, 2, 1, 1), gone(0, 1, 2), gone(1, 1, 1), mark(0, 1)} {
		for _, l := range [][]api.News{{x, y}, {y, x}, {mark(0, 1), y, mark(0, 2), x}} {
			_, _, e := hist.Clash(l, 2)
			mustBe(t, e == api.ErrNone && hist.Check(l, 2) == api.OK, l, e)
		}
	}
	l := []api.News{mark(0, 1), mark(0, 2), mark(1, 1), mark(0, 0)}
	_, _, e := hist.Clash(l, 2)
	mustBe(t, e == api.ErrNone && hist.Check(l, 2) == api.OK, l, e)
}

// checkClash asks for what the definition says of a list.
func checkClash(t *testing.T, l []api.News, srcs int) {
	t.Helper()
	i, j, e := hist.Clash(l, srcs)
	pairs := allClashes(l)
	switch {
	case !areNews(l, srcs):
		mustBe(t, i == 0 && j == 0 && e == api.ErrArg, l, srcs, i, j, e)
	case len(pairs) == 0:
		mustBe(t, i == 0 && j == 0 && e == api.ErrNone, l, srcs, i, j, e)
	default:
		mustBe(t, [2]int{i, j} == pairs[0] && e == api.OK, l, srcs, i, j, e)
	}
	mustBe(t, (hist.Check(l, srcs) == api.OK) == isFormed(l, srcs), l, srcs)
}

// P5.1: the example, and more than two that clash.
func TestClash(t *testing.T) {
	_, _, e := hist.Clash(example(), 2)
	mustBe(t, e == api.ErrNone, e)
	i, j, e := hist.Clash(append(example(), say(1, 1, 3, 4, 1, 2)), 2)
	mustBe(t, i == 5 && j == 8 && e == api.OK, i, j, e)
	a, b, c := say(0, 1, 1, 1, 0, 0), say(0, 1, 1, 2, 0, 0), gone(0, 1, 1)
	o, p := say(0, 2, 1, 1, 0, 0), gone(0, 2, 1)
	for _, x := range []struct {
		l    []api.News
		i, j int
	}{
		{[]api.News{a, b, c}, 0, 1}, {[]api.News{a, a, b}, 0, 2}, {[]api.News{o, a, b, p}, 1, 2}, {[]api.News{a, o, p, b}, 1, 2}, {[]api.News{a, o, a, o, b, p}, 0, 4},
	} {
		i, j, e := hist.Clash(x.l, 1)
		mustBe(t, i == x.i && j == x.j && e == api.OK, x, i, j, e)
	}
	last := append(wide(59), gone(0, 58, 1))
	i, j, e = hist.Clash(last, 2)
	mustBe(t, i == 58 && j == 59 && e == api.OK, i, j, e)
}

// P5.1: lists that would not be formed even if nothing clashed, and what random ones say.
func TestClashAny(t *testing.T) {
	for _, l := range badLists() {
		checkClash(t, l, 2)
	}
	for _, l := range clashing() {
		checkClash(t, append(slices.Clone(l), mark(2, 1)), 2)
		checkClash(t, append(slices.Clone(l), api.News{}), 2)
		for _, srcs := range badSrcs {
			checkClash(t, l, srcs)
		}
	}
	r := rand.New(rand.NewPCG(51, 5))
	for range 3000 {
		var l []api.News
		for range r.IntN(9) {
			l = append(l, newWorld(2, 2, 1).one(r, 2))
		}
		checkClash(t, l, 2)
	}
}

// P5.1 to P5.4: what is not formed is refused by every function, wherever it stands.
func TestBadLists(t *testing.T) {
	refuse := func(l []api.News, srcs int) {
		t.Helper()
		events, e := hist.Stands(l, srcs)
		mustBe(t, len(events) == 0 && e == api.ErrArg, "Stands", l, srcs, e)
		marks, e := hist.Marks(l, srcs)
		mustBe(t, len(marks) == 0 && e == api.ErrArg, "Marks", l, srcs, e)
		was, is, e := hist.Step(l, srcs, mark(0, 1))
		mustBe(t, len(was) == 0 && len(is) == 0 && e == api.ErrArg, "Step", l, srcs, e)
		late, e := hist.Late(l, srcs)
		mustBe(t, len(late) == 0 && e == api.ErrArg, "Late", l, srcs, e)
		keeps, e := hist.Keeps(l, srcs)
		mustBe(t, !keeps && e == api.ErrArg, "Keeps", l, srcs, e)
		least, e := hist.Least(l, srcs)
		mustBe(t, len(least) == 0 && e == api.ErrArg, "Least", l, srcs, e)
		for _, o := range [][]api.News{nil, {mark(0, 1)}, l} {
			for _, pair := range [][2][]api.News{{l, o}, {o, l}} {
				same, e := hist.Same(pair[0], pair[1], srcs)
				mustBe(t, !same && e == api.ErrArg, "Same", pair, srcs, e)
				both, e := hist.Merge(pair[0], pair[1], srcs)
				mustBe(t, len(both) == 0 && e == api.ErrArg, "Merge", pair, srcs, e)
			}
		}
	}
	for _, l := range badLists() {
		refuse(l, 2)
	}
	for _, srcs := range badSrcs {
		refuse(nil, srcs)
		refuse(example(), srcs)
	}
	refuse(example(), 1)
}
