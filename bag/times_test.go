package bag_test

import (
	"math"
	"math/rand/v2"
	"slices"
	"testing"

	"afterword/api"
	"afterword/bag"
)

// partsOf are the parts by the definition.
func partsOf(b api.Bag, times []int) []api.Bag {
	out := make([]api.Bag, len(times)+1)
	for _, x := range b {
		n := 0
		for _, t := range times {
			if t <= x.Rec.At {
				n++
			}
		}
		out[n] = append(out[n], x)
	}
	return out
}

func sameBags(a, b []api.Bag) bool {
	return slices.EqualFunc(a, b, func(x, y api.Bag) bool { return equal(x, y) })
}

// someTimes increase.
func someTimes(r *rand.Rand, from []int, most int) []int {
	var out []int
	for range r.IntN(most + 1) {
		out = append(out, pick(r, from))
	}
	slices.Sort(out)
	return slices.Compact(out)
}

func upTo(from, count int) []int {
	var out []int
	for i := range count {
		out = append(out, from+i)
	}
	return out
}

// P4.3
func TestParts(t *testing.T) {
	b := of(exampleB)
	for _, x := range []struct {
		times []int
		want  []string
	}{
		{nil, []string{exampleB}},
		{[]int{2, 4}, []string{"1 2 3 1; 1 2 5 -2", "", "4 0 0 1"}},
		{[]int{1}, []string{"", exampleB}},
		{[]int{4}, []string{"1 2 3 1; 1 2 5 -2", "4 0 0 1"}},
		{[]int{5}, []string{exampleB, ""}},
		{[]int{-3, 0, 200, 201}, []string{"", "", exampleB, "", ""}},
		{[]int{math.MinInt, math.MaxInt}, []string{"", exampleB, ""}},
		{[]int{1, 2, 3, 4, 5}, []string{"", "1 2 3 1; 1 2 5 -2", "", "", "4 0 0 1", ""}},
	} {
		var want []api.Bag
		for _, s := range x.want {
			want = append(want, of(s))
		}
		got, e := bag.Parts(b, x.times)
		mustBe(t, e == api.OK && sameBags(got, want), x, got, e)
	}
	edge := of("0 0 0 1; 200 0 0 1")
	got, e := bag.Parts(edge, []int{0, 1, 200, 201})
	mustBe(t, e == api.OK && sameBags(got, []api.Bag{nil, edge[:1], nil, edge[1:], nil}), got, e)
	got, e = bag.Parts(nil, []int{3, 9})
	mustBe(t, e == api.OK && sameBags(got, make([]api.Bag, 3)), got, e)
	for _, count := range []int{40, 41, 200} {
		got, e := bag.Parts(wide(300, 1), upTo(0, count))
		mustBe(t, (e == api.OK) == (count == 40) && (e == api.OK || e == api.ErrArg && len(got) == 0), count, got, e)
		mustBe(t, e != api.OK || sameBags(got, partsOf(wide(300, 1), upTo(0, count))), count, got)
	}
	for _, times := range [][]int{{1, 1}, {2, 1}, {1, 2, 2}, {0, 5, 3, 9}, {math.MaxInt, math.MinInt}} {
		got, e := bag.Parts(b, times)
		mustBe(t, e == api.ErrArg && len(got) == 0, times, got, e)
	}
}

// P4.3: the sum of all parts is the bag; of a sum the parts are the sums of the parts.
func TestPartsOfAny(t *testing.T) {
	twoBags(46, 2000, func(r *rand.Rand, a, b api.Bag) {
		times := someTimes(r, pick(r, [][]int{{0, 1, 2, 3, 4}, great.ats, upTo(-5, 220), {-1, 0, 150, 201, math.MaxInt, math.MinInt}}), pick(r, []int{1, 3, 40}))
		x, e := bag.Parts(a, times)
		mustBe(t, e == api.OK && sameBags(x, partsOf(a, times)), a, times, x)
		var all api.Bag
		for _, part := range x {
			all, _ = bag.Add(all, part)
		}
		mustBe(t, equal(all, a), a, times, x)
		sum, e := bag.Add(a, b)
		if e != api.OK {
			return
		}
		y, _ := bag.Parts(b, times)
		z, _ := bag.Parts(sum, times)
		for i := range z {
			both, _ := bag.Add(x[i], y[i])
			mustBe(t, equal(both, z[i]), a, b, times)
		}
	})
}

// P4.3
func TestShift(t *testing.T) {
	for _, x := range []struct {
		b    string
		n    int
		want string
	}{
		{exampleB, -2, "2 0 0 1"},
		{exampleB, 0, exampleB},
		{exampleB, 1, "2 2 3 1; 2 2 5 -2; 5 0 0 1"},
		{exampleB, -1, "0 2 3 1; 0 2 5 -2; 3 0 0 1"},
		{exampleB, -4, "0 0 0 1"},
		{exampleB, -5, ""},
		{exampleB, 196, "197 2 3 1; 197 2 5 -2; 200 0 0 1"},
		{exampleB, 197, "198 2 3 1; 198 2 5 -2"},
		{exampleB, 199, "200 2 3 1; 200 2 5 -2"},
		{exampleB, 200, ""},
		{"0 1 1 1; 200 2 2 2", 200, "200 1 1 1"},
		{"0 1 1 1; 200 2 2 2", -200, "0 2 2 2"},
		{"0 1 1 1; 200 2 2 2", 201, ""},
		{"0 1 1 1; 200 2 2 2", -201, ""},
		{"0 1 1 1; 200 2 2 2", math.MaxInt, ""},
		{"0 1 1 1; 200 2 2 2", math.MinInt, ""},
		{"0 1 1 1; 200 2 2 2", math.MinInt + 200, ""},
		{"", 5, ""},
	} {
		got, e := bag.Shift(of(x.b), x.n)
		mustBe(t, e == api.OK && equal(got, of(x.want)), x, got, e)
	}
	twoBags(47, 2000, func(r *rand.Rand, a, b api.Bag) {
		n := pick(r, []int{-200, -127, -2, -1, 1, 2, 64, 199, r.IntN(500) - 250})
		var want api.Bag
		for _, x := range a {
			if at := x.Rec.At + n; at >= 0 && at <= 200 {
				want = append(want, item(at, x.Rec.Key, x.Rec.Val, x.N))
			}
		}
		got, e := bag.Shift(a, n)
		check(t, got, e, want, a, n)
	})
}

// productOf are the items of a product by the definition.
func productOf(a, b api.Bag, apart int) []api.BagItem {
	var out []api.BagItem
	for _, x := range a {
		for _, y := range b {
			distance := x.Rec.At - y.Rec.At
			if x.Rec.Key != y.Rec.Key || distance > apart || -distance > apart {
				continue
			}
			val := x.Rec.Val + y.Rec.Val
			if val > 1000000000 {
				val = 1000000000
			}
			if val < -1000000000 {
				val = -1000000000
			}
			at := y.Rec.At
			if distance > 0 {
				at = x.Rec.At
			}
			out = append(out, item(at, x.Rec.Key, val, x.N*y.N))
		}
	}
	return out
}

// P4.4
func TestPair(t *testing.T) {
	for _, x := range []struct {
		a, b  string
		apart int
		want  string
	}{
		{exampleB, exampleC, 1, "1 2 6 -1; 1 2 8 2; 2 2 10 3; 2 2 12 -6"},
		{exampleB, exampleC, 0, "1 2 6 -1; 1 2 8 2"},
		{exampleC, exampleB, 1, "1 2 6 -1; 1 2 8 2; 2 2 10 3; 2 2 12 -6"},
		{exampleB, "", 9, ""},
		{"5 1 0 1", "5 2 0 1", 9, ""},
		{"5 1 0 1", "8 1 0 1", 2, ""},
		{"5 1 0 1", "8 1 0 1", 3, "8 1 0 1"},
		{"8 1 0 1", "5 1 0 1", 2, ""},
		{"8 1 0 1", "5 1 0 1", 3, "8 1 0 1"},
		{"0 1 0 1", "200 1 0 1", 199, ""},
		{"0 1 0 1", "200 1 0 1", 200, "200 1 0 1"},
		{"200 1 0 1", "0 1 0 -1", math.MaxInt, "200 1 0 -1"},
		{"0 0 1000000000 2", "0 0 0 1; 0 0 1 1; 0 0 1000000000 3", 0, "0 0 1000000000 10"},
		{"0 0 -1000000000 2", "0 0 -1000000000 3; 0 0 -1 1; 0 0 0 1", 0, "0 0 -1000000000 10"},
		{"0 0 1000000000 1", "0 0 -1000000000 1; 0 0 -1 1", 0, "0 0 0 1; 0 0 999999999 1"},
		{"0 0 1000000000 1", "0 0 1 1; 0 0 2 -1", 0, ""},
		{"0 0 0 1; 0 0 1 1", "0 0 0 1; 0 0 1 -1", 0, "0 0 0 1; 0 0 2 -1"},
		{"0 0 0 1000", "0 0 0 1000", 0, "0 0 0 1000000"},
		{"0 0 0 1000000; 0 0 1 1000000", "0 0 -1 -1000000; 0 0 0 1000000", 5, "NO"},
		{"0 0 1000000000 1000000", "0 0 1 1000000; 0 0 2 -1000000; 0 0 3 1", 0, "0 0 1000000000 1000000"},
	} {
		got, e := bag.Pair(of(x.a), of(x.b), x.apart)
		if x.want == "NO" {
			mustBe(t, e == api.ErrLong && len(got) == 0, x, got, e)
		} else {
			mustBe(t, e == api.OK && equal(got, of(x.want)), x, got, e)
		}
	}
	for _, apart := range []int{-1, -2, math.MinInt} {
		for _, s := range []string{"", exampleB} {
			got, e := bag.Pair(of(s), of(s), apart)
			mustBe(t, e == api.ErrArg && len(got) == 0, s, apart, got, e)
		}
	}
}

// P4.4: products that are just formed, and products that are not.
func TestLongPair(t *testing.T) {
	line := func(count, step, n int) api.Bag {
		var out api.Bag
		for i := range count {
			out = append(out, item(7, 7, i*step, n))
		}
		return out
	}
	for _, x := range []struct {
		a, b api.Bag
		want api.Errno
	}{
		{line(15, 1, 1), line(20, 15, 1), api.OK},
		{line(7, 1, 1), line(43, 7, 1), api.ErrLong},
		{line(300, 1, 1), line(300, 1, 1), api.ErrLong},
		{line(300, 1, 1), line(1, 1, 1000000), api.OK},
		{line(1, 1, 1000000), line(1, 1, 2), api.ErrLong},
		{line(1, 1, -1000000), line(1, 1, 2), api.ErrLong},
		{line(150, 1, 81), line(150, 1, 81), api.OK},
		{line(150, 1, 82), line(150, 1, 82), api.ErrLong},
		{nil, line(300, 1, 1000000), api.OK},
	} {
		got, e := bag.Pair(x.a, x.b, 0)
		mustBe(t, e == x.want, x, e)
		check(t, got, e, gathered(productOf(x.a, x.b, 0)), x)
	}
	var up, down api.Bag // all values of a product become the greatest one, and N are as great as can be
	for i := range 300 {
		up = append(up, item(i/2, 3, 999999700+i, 1000000))
		down = append(down, item(i/2, 3, 999999700+i, 1000000*(1-2*(i%2))))
	}
	got, e := bag.Pair(up, up, 200)
	mustBe(t, e == api.ErrLong && len(got) == 0, got, e)
	got, e = bag.Pair(up, down, 200)
	mustBe(t, e == api.OK && len(got) == 0, got, e)
}

// P4.4: by the definition; the product of a sum is the sum of the products, on both sides.
func TestPairOfAny(t *testing.T) {
	twoBags(48, 2000, func(r *rand.Rand, a, b api.Bag) {
		apart := pick(r, []int{0, 1, 2, 3, 64, 199, 200, 201, math.MaxInt})
		got, e := bag.Pair(a, b, apart)
		check(t, got, e, gathered(productOf(a, b, apart)), a, b, apart)
		turned, f := bag.Pair(b, a, apart)
		mustBe(t, e == f && equal(got, turned), a, b, apart)
		c := small.bag(r, 8)
		sum, e := bag.Add(a, b)
		left, e1 := bag.Pair(a, c, apart)
		right, e2 := bag.Pair(b, c, apart)
		whole, e3 := bag.Pair(sum, c, apart)
		both, e4 := bag.Add(left, right)
		if e == api.OK && e1 == api.OK && e2 == api.OK && e3 == api.OK {
			mustBe(t, e4 == api.OK && equal(whole, both), a, b, c, apart)
		}
		around, e5 := bag.Pair(c, sum, apart)
		mustBe(t, e5 == e3 && equal(around, whole), a, b, c, apart)
	})
}
