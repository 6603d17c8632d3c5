package bag_test

import (
	"math/rand/v2"
	"slices"
	"testing"

	"afterword/api"
	"afterword/bag"
)

// P4.1
func TestCheck(t *testing.T) {
	for _, b := range edgeBags() {
		mustBe(t, bag.Check(b) == api.OK, b)
	}
	for _, b := range badBags() {
		mustBe(t, bag.Check(b) == api.ErrArg, b)
	}
	twoBags(41, 2000, func(r *rand.Rand, a, b api.Bag) {
		l := slices.Concat(a, b)
		for _, x := range []api.Bag{a, b, l, gathered(l)} {
			mustBe(t, (bag.Check(x) == api.OK) == isBag(x), x, bag.Check(x))
		}
	})
}

// P4.1
func TestNew(t *testing.T) {
	for _, x := range [][2]string{
		{"", ""},
		{"4 0 0 2; 1 1 1 5; 4 0 0 -2", "1 1 1 5"},
		{"0 0 0 0", ""},
		{"2 0 0 0; 1 0 0 1; 2 0 0 1", "1 0 0 1; 2 0 0 1"},
		{"0 0 1 1; 0 1 0 1; 1 0 0 1", "0 0 1 1; 0 1 0 1; 1 0 0 1"},
		{"1 0 0 1; 0 1 0 1; 0 0 1 1", "0 0 1 1; 0 1 0 1; 1 0 0 1"},
		{"0 0 0 1000000; 0 0 0 1; 0 0 0 -1", "0 0 0 1000000"},
		{"0 0 0 -1000000; 0 0 0 -1000000; 0 0 0 1000000", "0 0 0 -1000000"},
	} {
		got, e := bag.New(of(x[0]))
		mustBe(t, e == api.OK && equal(got, of(x[1])), x, got, e)
	}
	for _, s := range []string{"0 0 0 1000000; 0 0 0 1", "0 0 0 -1; 0 0 0 -1000000", "1 0 0 1; 0 0 0 600000; 0 0 0 600000; 2 0 0 1"} {
		got, e := bag.New(of(s))
		mustBe(t, e == api.ErrLong && len(got) == 0, s, got, e)
	}
	for _, x := range badItems() {
		for _, l := range [][]api.BagItem{{x}, {item(1, 1, 1, 1), x}, {x, item(1, 1, 1, 1)}, slices.Concat(wide(400, 1), api.Bag{x})} {
			got, e := bag.New(l)
			mustBe(t, e == api.ErrArg && len(got) == 0, l, got, e)
		}
	}
}

// P4.1: how many items there are does not matter, how many records are left does.
func TestNewOfMany(t *testing.T) {
	for _, count := range []int{299, 300, 301, 500} {
		got, e := bag.New(wide(count, 3))
		check(t, got, e, wide(count, 3), count)
	}
	got, e := bag.New(slices.Concat(wide(400, 1), wide(400, 2), negated(wide(100, 3))))
	check(t, got, e, wide(400, 3)[100:])
	got, e = bag.New(slices.Concat(wide(400, 1), wide(400, 2), negated(wide(99, 3))))
	mustBe(t, e == api.ErrLong && len(got) == 0, got, e)
	got, e = bag.New(slices.Repeat(of("7 7 7 100; 3 3 3 -100"), 10000))
	check(t, got, e, of("3 3 3 -1000000; 7 7 7 1000000"))
	got, e = bag.New(slices.Repeat(of("7 7 7 1000000; 3 3 3 0"), 10000))
	mustBe(t, e == api.ErrLong && len(got) == 0, got, e)
}

// P4.1: by the definition, in whatever order items come.
func TestNewOfAny(t *testing.T) {
	r := rand.New(rand.NewPCG(42, 4))
	for range 3000 {
		p := pick(r, []pool{small, great})
		p.ns = append(slices.Clone(p.ns), 0)
		l := p.items(r, pick(r, []int{3, 12, 60, 600}))
		got, e := bag.New(l)
		check(t, got, e, gathered(l), l)
		r.Shuffle(len(l), func(i, j int) { l[i], l[j] = l[j], l[i] })
		again, f := bag.New(l)
		mustBe(t, e == f && equal(got, again), l, got, again)
	}
}

// P4.2
func TestAdd(t *testing.T) {
	for _, x := range [][3]string{
		{exampleB, exampleC, "1 2 5 -2; 2 2 7 3; 4 0 0 1"},
		{"", "", ""},
		{exampleB, "", exampleB},
		{"1 0 0 1", "1 0 0 -1", ""},
		{"1 0 0 1", "0 9 9 1", "0 9 9 1; 1 0 0 1"},
		{"0 0 0 999999", "0 0 0 1", "0 0 0 1000000"},
		{"0 0 0 1000000", "0 0 0 -1000000", ""},
	} {
		got, e := bag.Add(of(x[0]), of(x[1]))
		mustBe(t, e == api.OK && equal(got, of(x[2])), x, got, e)
	}
	for _, x := range [][2]api.Bag{
		{of("0 0 0 1000000"), of("0 0 0 1")}, {of("0 0 0 -1"), of("0 0 0 -1000000")}, {wide(300, 1), of("200 0 0 1")},
	} {
		got, e := bag.Add(x[0], x[1])
		mustBe(t, e == api.ErrLong && len(got) == 0, x, got, e)
	}
	got, e := bag.Add(wide(300, 1), of("0 0 0 -1; 200 0 0 1"))
	check(t, got, e, append(wide(300, 1)[1:], item(200, 0, 0, 1)))
	twoBags(43, 3000, func(_ *rand.Rand, a, b api.Bag) {
		got, e := bag.Add(a, b)
		check(t, got, e, gathered(slices.Concat(a, b)), a, b)
	})
}

// P4.2: bags are a group, in which it does not matter what comes first.
func TestGroup(t *testing.T) {
	twoBags(44, 3000, func(r *rand.Rand, a, b api.Bag) {
		c := small.bag(r, 8)
		ab, e := bag.Add(a, b)
		ba, f := bag.Add(b, a)
		mustBe(t, e == f && equal(ab, ba), a, b)
		alone, e0 := bag.Add(a, nil)
		mustBe(t, e0 == api.OK && equal(alone, a), a)
		contrary, _ := bag.Neg(a)
		none, e0 := bag.Add(a, contrary)
		mustBe(t, e0 == api.OK && len(none) == 0, a, none)
		bc, f := bag.Add(b, c)
		if e == api.OK && f == api.OK {
			left, e := bag.Add(ab, c)
			right, f := bag.Add(a, bc)
			mustBe(t, e == f && equal(left, right), a, b, c)
		}
	})
}

// P4.2
func TestNegSplit(t *testing.T) {
	got, e := bag.Neg(of(exampleC))
	check(t, got, e, of("1 2 3 1; 2 2 7 -3"))
	there, missing, e := bag.Split(of(exampleB))
	check(t, there, e, of("1 2 3 1; 4 0 0 1"))
	check(t, missing, e, of("1 2 5 2"))
	bags := edgeBags()
	twoBags(45, 1000, func(_ *rand.Rand, a, b api.Bag) { bags = append(bags, a, b) })
	for _, b := range bags {
		got, e := bag.Neg(b)
		check(t, got, e, negated(b))
		there, missing, e := bag.Split(b)
		mustBe(t, e == api.OK, b)
		up, down := slices.Clone(b), slices.Clone(b)
		check(t, there, e, slices.DeleteFunc(up, func(x api.BagItem) bool { return x.N < 0 }))
		check(t, missing, e, negated(slices.DeleteFunc(down, func(x api.BagItem) bool { return x.N > 0 })))
		contrary, _ := bag.Neg(missing)
		again, e := bag.Add(there, contrary)
		check(t, again, e, b)
	}
}
