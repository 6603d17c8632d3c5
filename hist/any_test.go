package hist_test

import (
	"math"
	"math/rand/v2"
	"reflect"
	"slices"
	"testing"

	"afterword/api"
	"afterword/hist"
)

// callAll returns what all functions return, and whether each one that has an error has zero values beside it.
func callAll(a, b []api.News, srcs int, n api.News) (results []any, clean bool) {
	clean = true
	add := func(e api.Errno, l ...any) {
		for _, y := range l {
			v := reflect.ValueOf(y)
			clean = clean && (e == api.OK || v.IsZero() || v.Kind() == reflect.Slice && v.Len() == 0)
		}
		results = append(append(results, e), l...)
	}
	add(hist.Check(a, srcs))
	i, j, e := hist.Clash(a, srcs)
	add(e, i, j)
	events, e := hist.Stands(a, srcs)
	add(e, events)
	marks, e := hist.Marks(a, srcs)
	add(e, marks)
	was, is, e := hist.Step(a, srcs, n)
	add(e, was, is)
	late, e := hist.Late(a, srcs)
	add(e, late)
	keeps, e := hist.Keeps(a, srcs)
	add(e, keeps)
	l, e := hist.Least(a, srcs)
	add(e, l)
	same, e := hist.Same(a, b, srcs)
	add(e, same)
	l, e = hist.Merge(a, b, srcs)
	add(e, l)
	return results, clean
}

// extents are the places in memory of all lists in some values.
func extents(l []any) [][2]uintptr {
	var out [][2]uintptr
	for _, x := range l {
		if v := reflect.ValueOf(x); v.Kind() == reflect.Slice && v.Cap() > 0 {
			out = append(out, [2]uintptr{v.Pointer(), v.Pointer() + uintptr(v.Cap())*v.Type().Elem().Size()})
		}
	}
	return out
}

// shared reports whether two lists in some values share memory.
func shared(l []any) bool {
	places := extents(l)
	for i, x := range places {
		for _, y := range places[i+1:] {
			if x[0] < y[1] && y[0] < x[1] {
				return true
			}
		}
	}
	return false
}

var anyNumbers = []int{0, 0, 1, 1, 2, 3, 4, 5, -1, 99, 100, 200, 201, 202, 999, 1000, 1000000000, 1000000001, math.MaxInt, math.MinInt}

// anyNews are formed, most of them, and some clash.
func anyNews(r *rand.Rand, w world) api.News {
	switch r.IntN(40) {
	case 0:
		return api.News{Do: api.NewsDo(pick(r, anyNumbers)), Src: pick(r, anyNumbers), Id: pick(r, anyNumbers), Ver: pick(r, anyNumbers), Rec: rec(pick(r, anyNumbers), pick(r, anyNumbers), pick(r, anyNumbers))}
	case 1:
		return newWorld(2, 2, 3).one(r, 2)
	}
	return w.one(r, 2)
}

func anyList(r *rand.Rand, w world) []api.News {
	var out []api.News
	most := pick(r, []int{3, 8, 63})
	for range r.IntN(most + 1) {
		out = append(out, anyNews(r, w))
	}
	return slices.Grow(out, r.IntN(3))
}

// P5.1 to P5.4, P0.16: any arguments stay as they are, no memory is shared, and a second call says the same.
func TestAnyArguments(t *testing.T) {
	r := rand.New(rand.NewPCG(61, 5))
	fine := 0
	for range 4000 {
		w := newWorld(3, 3, 5)
		a, b, n, srcs := anyList(r, w), anyList(r, w), anyNews(r, w), pick(r, []int{2, 2, 3, 4, pick(r, anyNumbers)})
		a2, b2 := slices.Clone(a[:cap(a)]), slices.Clone(b[:cap(b)])
		first, clean := callAll(a, b, srcs, n)
		second, _ := callAll(a, b, srcs, n)
		mustBe(t, clean && reflect.DeepEqual(first, second), a, b, srcs, n, first, second)
		mustBe(t, equal(a[:cap(a)], a2) && equal(b[:cap(b)], b2), "changed", a, b)
		mustBe(t, !shared(slices.Concat([]any{a, b}, first, second)), "shared", a, b)
		if first[0] == api.OK {
			fine++
		}
	}
	mustBe(t, fine > 1000, fine)
}

// R3: empty lists are as good as none.
func TestEmpty(t *testing.T) {
	for _, srcs := range []int{0, 1, 4} {
		none, clean := callAll(nil, nil, srcs, mark(0, 3))
		empty, also := callAll([]api.News{}, []api.News{}, srcs, mark(0, 3))
		mustBe(t, clean && also && len(none) == len(empty))
		for i := range none {
			x, y := reflect.ValueOf(none[i]), reflect.ValueOf(empty[i])
			same := reflect.DeepEqual(none[i], empty[i]) || x.Kind() == reflect.Slice && x.Len() == 0 && y.Len() == 0
			mustBe(t, same, i, none[i], empty[i])
		}
	}
}
