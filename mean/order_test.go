package mean_test

import (
	"math"
	"math/rand/v2"
	"reflect"
	"slices"
	"testing"

	"afterword/api"
	"afterword/mean"
)

// P6.2: the example, records that are there twice, and sources that say nothing, or that no definition names.
func TestSays(t *testing.T) {
	p, l := example(t)
	q := prog(t, "source x, y, z")
	m := []api.Event{event(2, 0, 0, 0, 0), event(0, 3, 4, 1, 9), event(0, 7, 4, 1, 9), event(1, 3, 4, 1, 9), event(0, 1, 5, -2, 3), event(0, 2, 5, -2, 1), event(0, 4, 5, -3, 7), event(0, 0, 200, most, -most)}
	for _, x := range []struct {
		p    api.TermProg
		l    []api.Event
		src  int
		want string
	}{
		{p, l, 0, "10 1 5 1; 14 1 7 1"}, {p, l, 1, "11 1 2 1"}, {p, nil, 1, ""},
		{q, m, 0, "4 1 9 2; 5 -3 7 1; 5 -2 1 1; 5 -2 3 1; 200 1000000000 -1000000000 1"}, {q, m, 1, "4 1 9 1"}, {q, m, 2, "0 0 0 1"}, {q, l, 2, ""},
	} {
		b, e := mean.Says(x.p, x.l, x.src)
		mustBe(t, slices.Equal(b, of(t, x.want)) && e == api.OK, x, b, e)
	}
	for _, src := range []int{-1, 2, 3, math.MaxInt, math.MinInt} {
		b, e := mean.Says(p, l, src)
		mustBe(t, len(b) == 0 && e == api.ErrArg, src, b, e)
	}
	b, e := mean.Says(q, wide(60), 1)
	mustBe(t, len(b) == 30 && b[0].Rec == rec(1, 1, 1) && e == api.OK, b, e)
}

// P6.2: the example, rings, and definitions that must wait.
func TestOrder(t *testing.T) {
	for _, x := range []struct {
		text string
		want [][]int
	}{
		{"source x, y let a = x once let b = a slide 5 by sum and prev 3 b let c = a lack y within 2", [][]int{{0}, {1}, {2}}},
		{"source x", nil},
		{"source x let a = prev 1 a", [][]int{{0}}},
		{"source x let a = prev 1 b let b = x", [][]int{{1}, {0}}},
		{"source x let a = prev 1 c let b = x let c = x", [][]int{{1}, {2}, {0}}},
		{"source x let a = prev 1 d let b = prev 1 c let c = prev 1 d let d = x", [][]int{{3}, {0}, {2}, {1}}},
		{"source x let a = prev 1 c let b = x let c = prev 2 a", [][]int{{0, 2}, {1}}},
		{"source x let a = prev 1 d let b = prev 1 c let c = prev 1 b let d = b", [][]int{{1, 2}, {3}, {0}}},
		{"source x let a = x let b = prev 1 f let c = prev 1 e let d = x let e = c let f = prev 1 b and e", [][]int{{0}, {2, 4}, {1, 5}, {3}}},
		{"source x let a = prev 1 f let b = a let c = b let d = c let e = d let f = e", [][]int{{0, 1, 2, 3, 4, 5}}},
		{"source x let a = prev 9 f let b = prev 9 e let c = prev 9 d let d = x let e = x let f = x", [][]int{{3}, {2}, {4}, {1}, {5}, {0}}},
	} {
		l, e := mean.Order(prog(t, x.text))
		mustBe(t, len(l) == len(x.want) && (len(l) == 0 || reflect.DeepEqual(l, x.want)) && e == api.OK, x, l, e)
	}
	for _, p := range badProgs(t) {
		l, e := mean.Order(p)
		mustBe(t, len(l) == 0 && e == api.ErrArg, p, l, e)
	}
}

// P6.2: random programs, by the definition.
func TestOrderAny(t *testing.T) {
	r := rand.New(rand.NewPCG(62, 6))
	rings := 0
	for range 2000 {
		p := anyProg(r, nil)
		want := newOracle(p, nil).order()
		l, e := mean.Order(p)
		mustBe(t, reflect.DeepEqual(l, want) && e == api.OK, p, l, want, e)
		if len(l) < len(p.Defs) {
			rings++
		}
	}
	mustBe(t, rings > 50, rings)
}
