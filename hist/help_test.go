package hist_test

import (
	"math"
	"math/rand/v2"
	"slices"
	"testing"

	"afterword/api"
)

func rec(at, key, val int) api.Rec { return api.Rec{At: at, Key: key, Val: val} }

func say(src, id, ver, at, key, val int) api.News {
	return api.News{Do: api.NewsSay, Src: src, Id: id, Ver: ver, Rec: rec(at, key, val)}
}

func gone(src, id, ver int) api.News {
	return api.News{Do: api.NewsGone, Src: src, Id: id, Ver: ver}
}

func mark(src, at int) api.News { return api.News{Do: api.NewsMark, Src: src, Rec: rec(at, 0, 0)} }

func event(src, id, at, key, val int) api.Event {
	return api.Event{Src: src, Id: id, Rec: rec(at, key, val)}
}

// example is the N of the chapter.
func example() []api.News {
	return []api.News{
		say(0, 1, 1, 10, 1, 5), say(1, 1, 1, 4, 1, 2), say(0, 2, 1, 12, 1, 7), mark(0, 11),
		say(0, 1, 2, 10, 1, 6), gone(1, 1, 3), say(1, 1, 2, 4, 1, 9), mark(1, 5),
	}
}

// wide are n news, each of an event of its own.
func wide(n int) []api.News {
	var out []api.News
	for i := range n {
		out = append(out, say(i%2, i, 1, i, 0, i))
	}
	return out
}

func isIn(n, least, most int) bool { return n >= least && n <= most }

func isRec(r api.Rec) bool {
	const most = 1000000000
	return isIn(r.At, 0, 200) && isIn(r.Key, -most, most) && isIn(r.Val, -most, most)
}

func isNews(n api.News, srcs int) bool {
	versions := isIn(n.Id, 0, 999) && isIn(n.Ver, 1, 99)
	switch {
	case n.Src < 0, n.Src >= srcs:
		return false
	case n.Do == 1:
		return versions && isRec(n.Rec)
	case n.Do == 2:
		return versions && n.Rec == rec(0, 0, 0)
	case n.Do == 3:
		return n.Id == 0 && n.Ver == 0 && isIn(n.Rec.At, 0, 201) && n.Rec.Key == 0 && n.Rec.Val == 0
	}
	return false
}

func clashes(m, n api.News) bool {
	return m.Do != 3 && n.Do != 3 && m.Src == n.Src && m.Id == n.Id && m.Ver == n.Ver && m != n
}

// allClashes are the pairs that clash, by the second ones and then the first ones.
func allClashes(l []api.News) [][2]int {
	var out [][2]int
	for i := range l {
		for j := range l {
			if i < j && clashes(l[i], l[j]) {
				out = append(out, [2]int{i, j})
			}
		}
	}
	slices.SortFunc(out, func(x, y [2]int) int { return (x[1]-y[1])*1000 + x[0] - y[0] })
	return out
}

func areNews(l []api.News, srcs int) bool {
	ok := isIn(srcs, 1, 4) && len(l) <= 60
	for _, n := range l {
		ok = ok && isNews(n, srcs)
	}
	return ok
}

func isFormed(l []api.News, srcs int) bool { return areNews(l, srcs) && len(allClashes(l)) == 0 }

// counting is the one of the news that counts, or a zero one.
func counting(l []api.News, src, id int) api.News {
	var out api.News
	for _, n := range slices.Backward(l) {
		if n.Do != 3 && n.Src == src && n.Id == id && n.Ver >= out.Ver {
			out = n
		}
	}
	return out
}

// standing is an event after news, if it stands.
func standing(l []api.News, src, id int) []api.Event {
	if n := counting(l, src, id); n.Do == 1 {
		return []api.Event{{Src: src, Id: id, Rec: n.Rec}}
	}
	return nil
}

// stands are all events after news, in right order.
func stands(l []api.News) []api.Event {
	var out []api.Event
	for at := range 201 {
		for src := range 4 {
			var ids []int
			for _, n := range l {
				if n.Src == src && n.Do != 3 {
					ids = append(ids, n.Id)
				}
			}
			slices.Sort(ids)
			for _, id := range slices.Compact(ids) {
				for _, e := range standing(l, src, id) {
					if e.Rec.At == at {
						out = append(out, e)
					}
				}
			}
		}
	}
	return out
}

func markOf(l []api.News, src int) int {
	out := 0
	for _, n := range l {
		if n.Do == 3 && n.Src == src && n.Rec.At > out {
			out = n.Rec.At
		}
	}
	return out
}

func marks(l []api.News, srcs int) []int {
	var out []int
	for src := range srcs {
		out = append(out, markOf(l, src))
	}
	return out
}

// changed is what one more of the news changes.
func changed(l []api.News, n api.News) (was, is []api.Event) {
	if n.Do == 3 {
		return nil, nil
	}
	was, is = standing(l, n.Src, n.Id), standing(append(slices.Clone(l), n), n.Src, n.Id)
	if equal(was, is) {
		return nil, nil
	}
	return was, is
}

func late(l []api.News) []int {
	var out []int
	for i, n := range l {
		was, is := changed(l[:i], n)
		for _, e := range slices.Concat(was, is) {
			if e.Rec.At < markOf(l[:i], n.Src) {
				out = append(out, i)
			}
		}
	}
	return slices.Compact(out)
}

func least(l []api.News) []api.News {
	var out []api.News
	for src := range 4 {
		for id := range 1000 {
			if n := counting(l, src, id); n.Do != 0 {
				out = append(out, n)
			}
		}
		if at := markOf(l, src); at > 0 {
			out = append(out, mark(src, at))
		}
	}
	return out
}

func equal[T comparable](a, b []T) bool { return slices.Equal(a, b) }

func mustBe(t *testing.T, ok bool, l ...any) {
	t.Helper()
	if !ok {
		t.Error(l...)
	}
}

func pick[T any](r *rand.Rand, l []T) T { return l[r.IntN(len(l))] }

// world says by one version one thing, so that its news never clash.
type world struct {
	ids, vers, times int
	news             map[[3]int]api.News
}

func newWorld(ids, vers, times int) world { return world{ids, vers, times, map[[3]int]api.News{}} }

func (w world) one(r *rand.Rand, srcs int) api.News {
	src := r.IntN(srcs)
	if r.IntN(4) == 0 {
		return mark(src, r.IntN(w.times+2))
	}
	version := [3]int{src, r.IntN(w.ids), 1 + r.IntN(w.vers)}
	if _, known := w.news[version]; !known {
		w.news[version] = say(src, version[1], version[2], r.IntN(w.times+1), r.IntN(3)-1, r.IntN(2))
		if r.IntN(3) == 0 {
			w.news[version] = gone(src, version[1], version[2])
		}
	}
	return w.news[version]
}

func (w world) list(r *rand.Rand, srcs, most int) []api.News {
	var out []api.News
	for range r.IntN(most + 1) {
		out = append(out, w.one(r, srcs))
	}
	return out
}

// worlds calls f with worlds of some kinds, a number of sources, and how many news a list should have.
func worlds(seed uint64, count int, f func(r *rand.Rand, w world, srcs, most int)) {
	r := rand.New(rand.NewPCG(seed, 5))
	for i := range count {
		srcs, most := 1+i%4, pick(r, []int{3, 8, 20})
		switch r.IntN(3) {
		case 0:
			f(r, newWorld(2, 2, 3), srcs, most)
		case 1:
			f(r, newWorld(4, 6, 200), srcs, most)
		default:
			f(r, newWorld(1000, 99, 200), srcs, most)
		}
	}
}

var far = []int{math.MinInt, math.MaxInt, -1, 1000000001, -1000000001}

// badNews are not formed, for two sources.
func badNews() []api.News {
	var out []api.News
	for _, do := range []api.NewsDo{0, -1, 4, 5, math.MaxInt, math.MinInt} {
		out = append(out, api.News{Do: do}, api.News{Do: do, Id: 1, Ver: 1}, api.News{Do: do, Id: 1, Ver: 1, Rec: rec(1, 1, 1)})
	}
	for _, n := range append([]int{2, 3, 4}, far...) {
		out = append(out, say(n, 1, 1, 1, 1, 1), gone(n, 1, 1), mark(n, 1))
	}
	for _, n := range append([]int{1000}, far...) {
		out = append(out, say(0, n, 1, 1, 1, 1), gone(0, n, 1))
	}
	for _, n := range append([]int{0, 100}, far...) {
		out = append(out, say(0, 1, n, 1, 1, 1), gone(0, 1, n))
	}
	for _, n := range append([]int{201}, far...) {
		out = append(out, say(0, 1, 1, n, 1, 1))
	}
	for _, n := range append([]int{202}, far...) {
		out = append(out, mark(0, n))
	}
	for _, n := range []int{math.MinInt, math.MaxInt, 1000000001, -1000000001} {
		out = append(out, say(0, 1, 1, 1, n, 1), say(0, 1, 1, 1, 1, n))
	}
	for _, n := range append([]int{1, 5}, far...) {
		for _, x := range []api.News{gone(0, 1, 1), mark(0, 1)} {
			a, b, c := x, x, x
			a.Rec.At, b.Rec.Key, c.Rec.Val = n, n, n
			out = append(out, b, c)
			if x.Do == api.NewsGone {
				out = append(out, a)
			}
		}
		out = append(out, api.News{Do: api.NewsMark, Id: n, Rec: rec(1, 0, 0)}, api.News{Do: api.NewsMark, Ver: n, Rec: rec(1, 0, 0)})
	}
	return out
}

// edgeNews are formed, just so, for two sources; none clashes with another one.
func edgeNews() []api.News {
	const most = 1000000000
	return []api.News{
		say(0, 0, 1, 0, 0, 0), say(1, 999, 99, 200, most, -most), say(1, 999, 98, 0, -most, most), say(0, 0, 99, 200, 1, 1),
		gone(0, 1, 1), gone(1, 0, 99), gone(0, 999, 1), mark(0, 0), mark(1, 0), mark(0, 201), mark(1, 200),
	}
}

// clashing are lists with two that clash.
func clashing() [][]api.News {
	return [][]api.News{
		{say(0, 1, 1, 1, 1, 1), say(0, 1, 1, 2, 1, 1)}, {say(0, 1, 1, 1, 1, 1), say(0, 1, 1, 1, 2, 1)}, {say(0, 1, 1, 1, 1, 1), say(0, 1, 1, 1, 1, 2)},
		{say(0, 1, 1, 1, 1, 1), gone(0, 1, 1)}, {gone(0, 1, 1), say(0, 1, 1, 0, 0, 0)}, {say(1, 0, 99, 0, 0, 0), mark(1, 7), gone(1, 0, 99)},
		{say(0, 1, 1, 1, 1, 1), say(0, 1, 2, 1, 1, 1), say(0, 1, 1, 1, 1, 0)},
	}
}

// badLists are not formed, for two sources; the last ones are so for what clashes.
func badLists() [][]api.News {
	out := [][]api.News{wide(61), slices.Concat(wide(60), []api.News{mark(0, 1)}), slices.Repeat([]api.News{mark(0, 1)}, 61)}
	for _, n := range badNews() {
		out = append(out, []api.News{n}, []api.News{mark(0, 1), n}, []api.News{n, say(0, 1, 1, 1, 1, 1)}, slices.Concat(wide(59), []api.News{n}))
	}
	return append(out, clashing()...)
}

var badSrcs = []int{0, 5, -1, 6, math.MinInt, math.MaxInt}
