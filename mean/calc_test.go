package mean_test

import (
	"math"
	"math/rand/v2"
	"slices"
	"testing"

	"afterword/api"
	"afterword/mean"
)

const most = 1000000000

// P6.1: the example, each kind of terms, and what is clamped.
func TestCalc(t *testing.T) {
	at, key, val, other := leaf(api.CalcAt), leaf(api.CalcKey), leaf(api.CalcVal), leaf(api.CalcOther)
	r := rec(10, -1, 5)
	for _, x := range []struct {
		c     api.Calc
		other int
		want  int
	}{
		{two(api.CalcSub, other, at), 7, -3}, {num(0), 7, 0}, {num(most), 7, most}, {num(-most), 7, -most},
		{at, 7, 10}, {key, 7, -1}, {val, 7, 5}, {other, 7, 7}, {other, -most, -most}, {other, most, most},
		{two(api.CalcAdd, at, val), 0, 15}, {two(api.CalcAdd, num(most), num(1)), 0, most}, {two(api.CalcAdd, num(most), num(most)), 0, most}, {two(api.CalcAdd, num(-most), key), 0, -most},
		{two(api.CalcAdd, num(most-1), num(1)), 0, most}, {two(api.CalcAdd, num(most-1), key), 0, most - 2},
		{two(api.CalcSub, at, val), 0, 5}, {two(api.CalcSub, val, at), 0, -5}, {two(api.CalcSub, num(-most), num(1)), 0, -most}, {two(api.CalcSub, num(most), num(-most)), 0, most}, {two(api.CalcSub, num(1-most), num(1)), 0, -most},
		{two(api.CalcMul, at, val), 0, 50}, {two(api.CalcMul, key, val), 0, -5}, {two(api.CalcMul, num(most), num(most)), 0, most}, {two(api.CalcMul, num(most), num(-most)), 0, -most}, {two(api.CalcMul, num(-most), num(-most)), 0, most}, {two(api.CalcMul, num(0), num(-most)), 0, 0}, {two(api.CalcMul, num(31623), num(31623)), 0, most}, {two(api.CalcMul, num(31622), num(31622)), 0, 999950884},
		{two(api.CalcLess, val, at), 0, 1}, {two(api.CalcLess, at, val), 0, 0}, {two(api.CalcLess, at, at), 0, 0}, {two(api.CalcLess, num(-1), key), 0, 0},
		{two(api.CalcSame, at, num(10)), 0, 1}, {two(api.CalcSame, at, val), 0, 0}, {two(api.CalcSame, other, val), 5, 1}, {two(api.CalcSame, num(0), num(0)), 5, 1},
		{two(api.CalcSub, two(api.CalcAdd, num(most), num(5)), num(5)), 0, most - 5}, // clamped on the way
		{two(api.CalcAdd, num(-5), two(api.CalcMul, num(most), num(2))), 0, most - 5},
		{two(api.CalcLess, two(api.CalcMul, num(most), num(3)), two(api.CalcMul, num(most), num(4))), 0, 0},
	} {
		n, e := mean.Calc(x.c, r, x.other)
		mustBe(t, n == x.want && e == api.OK, x, n, e)
	}
}

// fullTerm is as deep as said everywhere.
func fullTerm(op api.CalcOp, depth int) api.Calc {
	if depth == 1 {
		return num(1)
	}
	return two(op, fullTerm(op, depth-1), fullTerm(op, depth-1))
}

// P6.1: terms may be as deep as terms are, however many nodes they have.
func TestCalcDeep(t *testing.T) {
	n, e := mean.Calc(fullTerm(api.CalcAdd, 10), api.Rec{}, 0)
	mustBe(t, n == 512 && e == api.OK, n, e)
	left, right := num(2), num(2)
	for range 9 {
		left, right = two(api.CalcMul, left, num(2)), two(api.CalcMul, num(2), right)
	}
	for _, c := range []api.Calc{left, right} {
		n, e = mean.Calc(c, api.Rec{}, 0)
		mustBe(t, n == 1024 && e == api.OK, n, e)
		n, e = mean.Calc(two(api.CalcMul, c, num(1)), api.Rec{}, 0)
		mustBe(t, n == 0 && e == api.ErrArg, n, e)
		n, e = mean.Calc(two(api.CalcMul, num(1), c), api.Rec{}, 0)
		mustBe(t, n == 0 && e == api.ErrArg, n, e)
	}
}

// badTerms are not formed.
func badTerms() []api.Calc {
	loop := []api.Calc{num(1), num(2)}
	loop[0], loop[1] = api.Calc{Op: api.CalcAdd, Kids: loop}, api.Calc{Op: api.CalcSame, Kids: loop}
	out := []api.Calc{{}, {Op: -1}, {Op: 11}, {Op: math.MaxInt}, {Op: math.MinInt}, num(most + 1), num(-most - 1), num(math.MaxInt), num(math.MinInt), loop[0], loop[1], fullTerm(api.CalcMul, 11)}
	for op := api.CalcInt; op <= api.CalcSame; op++ {
		for kids := range 4 {
			c := api.Calc{Op: op}
			for range kids {
				c.Kids = append(c.Kids, num(1))
			}
			if op >= api.CalcAdd != (kids == 2) {
				out = append(out, c)
			} else if op != api.CalcInt {
				c.N = 1
				out = append(out, c)
			}
		}
	}
	for _, c := range slices.Clone(out) {
		out = append(out, two(api.CalcAdd, c, num(1)), two(api.CalcLess, num(1), c))
	}
	return out
}

// P6.1: what Calc refuses.
func TestCalcRefused(t *testing.T) {
	for _, c := range badTerms() {
		n, e := mean.Calc(c, rec(1, 1, 1), 1)
		mustBe(t, n == 0 && e == api.ErrArg, c, n, e)
	}
	for _, n := range []int{most + 1, -most - 1, math.MaxInt, math.MinInt} {
		for _, x := range []struct {
			r     api.Rec
			other int
		}{{rec(n, 0, 0), 0}, {rec(0, n, 0), 0}, {rec(0, 0, n), 0}, {rec(201, 0, 0), 0}, {rec(-1, 0, 0), 0}, {rec(0, 0, 0), n}} {
			v, e := mean.Calc(num(3), x.r, x.other)
			mustBe(t, v == 0 && e == api.ErrArg, x, v, e)
		}
	}
	v, e := mean.Calc(leaf(api.CalcAt), rec(200, most, -most), -most)
	mustBe(t, v == 200 && e == api.OK, v, e)
}

// P6.1: random terms, by the definition.
func TestCalcAny(t *testing.T) {
	r := rand.New(rand.NewPCG(61, 6))
	for range 5000 {
		c := anyTerm(r, 1+r.IntN(6), true)
		x := rec(r.IntN(201), r.IntN(7)-3, r.IntN(7)-3)
		other := pick(r, []int{-most, -1, 0, 3, most})
		n, e := mean.Calc(c, x, other)
		mustBe(t, n == valueOf(c, x, other) && e == api.OK, c, x, other, n, e)
	}
}

// P6.1: the example, each way to fold, and what is clamped.
func TestFold(t *testing.T) {
	for _, x := range []struct {
		text                     string
		count, sum, least, great int
	}{
		{"10 1 5 3", 3, 15, 5, 5}, {"0 0 0 1", 1, 0, 0, 0}, {"1 2 3 1; 1 2 4 2; 5 7 -9 1", 4, 2, -9, 4}, {"1 2 -3 2; 1 3 -3 1", 3, -9, -3, -3},
		{"0 0 1000000000 2", 2, most, most, most}, {"0 0 -1000000000 2", 2, -most, -most, -most}, {"0 0 1000000000 1000000", 1000000, most, most, most},
		{"0 0 1000000000 3; 1 0 -1000000000 3", 6, 0, -most, most}, {"0 0 1000000000 3; 1 0 -1000000000 2", 5, most, -most, most}, {"0 0 1000000000 2; 1 0 -999999999 2", 4, 2, -999999999, most},
	} {
		for f, want := range []int{x.count, x.sum, x.least, x.great} {
			n, e := mean.Fold(api.TermFold(f+1), of(t, x.text))
			mustBe(t, n == want && e == api.OK, x, f, n, e)
		}
	}
	var all api.Bag
	for i := range 300 {
		all = append(all, api.BagItem{Rec: rec(i/2, i%2, most), N: 1000000})
	}
	for f, want := range []int{300000000, most, most, most} {
		n, e := mean.Fold(api.TermFold(f+1), all)
		mustBe(t, n == want && e == api.OK, f, n, e)
	}
}

// P6.1: what Fold refuses; a bag without records has no fold.
func TestFoldRefused(t *testing.T) {
	for f := api.TermFold(-1); f <= 6; f++ {
		want := api.ErrArg
		if f >= 1 && f <= 4 {
			want = api.ErrNone
		}
		for _, b := range []api.Bag{nil, {}} {
			n, e := mean.Fold(f, b)
			mustBe(t, n == 0 && e == want, f, n, e)
		}
		for _, text := range []string{"1 2 3 -1", "1 2 3 1; 4 0 0 -1", "1 2 3 -1; 4 0 0 2"} {
			n, e := mean.Fold(f, of(t, text))
			mustBe(t, n == 0 && e == api.ErrArg, f, text, n, e)
		}
		x := api.BagItem{Rec: rec(1, 2, 3), N: 1}
		for _, b := range []api.Bag{{{Rec: x.Rec}}, {x, x}, {x, {Rec: rec(0, 0, 0), N: 1}}, {{Rec: rec(201, 0, 0), N: 1}}, {{Rec: rec(0, most+1, 0), N: 1}}, {{Rec: x.Rec, N: 1000001}}, make(api.Bag, 301)} {
			n, e := mean.Fold(f, b)
			mustBe(t, n == 0 && e == api.ErrArg, f, b, n, e)
		}
	}
	for _, f := range []api.TermFold{math.MaxInt, math.MinInt, 5, 0} {
		n, e := mean.Fold(f, of(t, "1 2 3 1"))
		mustBe(t, n == 0 && e == api.ErrArg, f, n, e)
	}
}
