package bag_test

import (
	"fmt"
	"math"
	"math/rand/v2"
	"slices"
	"strings"
	"testing"

	"afterword/api"
	"afterword/bag"
)

func rec(at, key, val int) api.Rec { return api.Rec{At: at, Key: key, Val: val} }

func item(at, key, val, n int) api.BagItem { return api.BagItem{Rec: rec(at, key, val), N: n} }

// of are the items that a text names, whatever they are: At, Key, Val, N.
func of(text string) api.Bag {
	var out api.Bag
	for s := range strings.SplitSeq(text, ";") {
		var x api.BagItem
		if n, _ := fmt.Sscan(s, &x.Rec.At, &x.Rec.Key, &x.Rec.Val, &x.N); n == 4 {
			out = append(out, x)
		}
	}
	return out
}

// The B and the C of the chapter.
const (
	exampleB = "1 2 3 1; 1 2 5 -2; 4 0 0 1"
	exampleC = "1 2 3 -1; 2 2 7 3"
)

// wide are n items, each of a record of its own, in order; each n times there.
func wide(count, n int) api.Bag {
	var out api.Bag
	for i := range count {
		out = append(out, item(i/100, i%10, i%100/10, n))
	}
	slices.SortFunc(out, func(x, y api.BagItem) int { return order(x.Rec, y.Rec) })
	return out
}

func order(a, b api.Rec) int {
	switch {
	case a == b:
		return 0
	case a.At < b.At, a.At == b.At && a.Key < b.Key, a.At == b.At && a.Key == b.Key && a.Val < b.Val:
		return -1
	}
	return 1
}

func isRecord(r api.Rec) bool {
	const most = 1000000000
	return r.At >= 0 && r.At <= 200 && r.Key >= -most && r.Key <= most && r.Val >= -most && r.Val <= most
}

func isItem(x api.BagItem) bool { return isRecord(x.Rec) && x.N >= -1000000 && x.N <= 1000000 }

func isBag(b api.Bag) bool {
	ok := len(b) <= 300
	for i, x := range b {
		ok = ok && isItem(x) && x.N != 0 && (i == 0 || order(b[i-1].Rec, x.Rec) < 0)
	}
	return ok
}

// gathered is the bag of items by the definition, however much of it there is.
func gathered(l []api.BagItem) api.Bag {
	var out api.Bag
	rest := slices.Clone(l)
	slices.SortFunc(rest, func(x, y api.BagItem) int { return order(x.Rec, y.Rec) })
	for _, x := range rest {
		if len(out) > 0 && out[len(out)-1].Rec == x.Rec {
			out[len(out)-1].N += x.N
		} else {
			out = append(out, x)
		}
	}
	return slices.DeleteFunc(out, func(x api.BagItem) bool { return x.N == 0 })
}

func negated(l []api.BagItem) api.Bag {
	out := api.Bag(slices.Clone(l))
	for i := range out {
		out[i].N *= -1
	}
	return out
}

func equal[T comparable](a, b []T) bool { return slices.Equal(a, b) }

func mustBe(t *testing.T, ok bool, l ...any) {
	t.Helper()
	if !ok {
		t.Error(l...)
	}
}

// check asks for a bag that is as the definition says, or for ErrLong if that is none.
func check(t *testing.T, got api.Bag, e api.Errno, want api.Bag, about ...any) {
	t.Helper()
	if isBag(want) {
		mustBe(t, e == api.OK && equal(got, want), got, e, "not", want, about)
	} else {
		mustBe(t, e == api.ErrLong && len(got) == 0, got, e, "not ErrLong", about)
	}
}

func pick[T any](r *rand.Rand, l []T) T { return l[r.IntN(len(l))] }

// The numbers that records and items are made of: of small bags, so that records meet, or of bags at the limits.
type pool struct{ ats, keys, vals, ns []int }

var small = pool{[]int{0, 1, 2, 3}, []int{-1, 0, 2}, []int{-2, 0, 1}, []int{-3, -2, -1, 1, 2, 3}}

var great = pool{
	[]int{0, 1, 63, 64, 100, 127, 128, 199, 200},
	[]int{-1000000000, -999999999, -65, -64, -63, -1, 0, 1, 63, 64, 128, 16384, 1000000000},
	[]int{-1000000000, -999999999, -8193, -8192, -1, 0, 1, 63, 127, 128, 1 << 20, 1 << 27, 1000000000},
	[]int{-1000000, -999999, -64, -1, 1, 2, 63, 64, 500000, 500001, 1000000},
}

func (p pool) rec(r *rand.Rand) api.Rec { return rec(pick(r, p.ats), pick(r, p.keys), pick(r, p.vals)) }

func (p pool) items(r *rand.Rand, most int) []api.BagItem {
	var out []api.BagItem
	for range r.IntN(most + 1) {
		out = append(out, api.BagItem{Rec: p.rec(r), N: pick(r, p.ns)})
	}
	return out
}

// bag is formed: a record's N is that of its first item.
func (p pool) bag(r *rand.Rand, most int) api.Bag {
	var out api.Bag
	for _, x := range p.items(r, most) {
		if !slices.ContainsFunc(out, func(y api.BagItem) bool { return x.Rec == y.Rec }) {
			out = append(out, x)
		}
	}
	slices.SortFunc(out, func(x, y api.BagItem) int { return order(x.Rec, y.Rec) })
	return out
}

// twoBags calls f with pairs of bags.
func twoBags(seed uint64, count int, f func(r *rand.Rand, a, b api.Bag)) {
	r := rand.New(rand.NewPCG(seed, 4))
	for i := range count {
		p := pick(r, []pool{small, great})
		most := pick(r, []int{2, 6, 20})
		a := p.bag(r, most)
		b := p.bag(r, most)
		if i%50 == 0 {
			a, b = wide(r.IntN(301), pick(r, p.ns)), wide(r.IntN(301), pick(r, p.ns))
		}
		f(r, a, b)
	}
}

// badRecords are not formed.
func badRecords() []api.Rec {
	var out []api.Rec
	for _, at := range []int{-1, 201, math.MinInt, math.MaxInt} {
		out = append(out, rec(at, 0, 0))
	}
	for _, n := range []int{-1000000001, 1000000001, math.MinInt, math.MaxInt} {
		out = append(out, rec(0, n, 0), rec(0, 0, n))
	}
	return out
}

var badNs = []int{-1000001, 1000001, math.MinInt, math.MaxInt}

// badItems are such as no bag is made of.
func badItems() []api.BagItem {
	var out []api.BagItem
	for _, x := range badRecords() {
		out = append(out, api.BagItem{Rec: x, N: 1})
	}
	for _, n := range badNs {
		out = append(out, item(0, 0, 0, n))
	}
	return out
}

// badBags are not formed.
func badBags() []api.Bag {
	out := []api.Bag{
		of("0 0 0 0"), of("1 2 3 1; 1 2 3 1"), of("1 2 3 1; 1 2 3 -1"), of("1 2 3 1; 1 2 2 1"), of("1 2 3 1; 1 1 4 1"), of("1 2 3 1; 0 3 4 1"),
		of("0 0 0 1; 1 0 0 0"), of("0 0 0 1; 2 0 0 1; 1 0 0 1"), wide(301, 1), wide(1000, -1),
	}
	for _, x := range badItems() {
		out = append(out, api.Bag{x})
		l := api.Bag{item(0, -5, 0, 1), x, item(200, 5, 5, 1)}
		slices.SortFunc(l, func(x, y api.BagItem) int { return order(x.Rec, y.Rec) })
		out = append(out, l)
	}
	return out
}

// edgeBags are formed, just so.
func edgeBags() []api.Bag {
	const most = "1000000000"
	return []api.Bag{
		nil, {}, of("0 0 0 1"), of("0 0 0 1000000"), of("200 0 0 -1000000"), of("0 -" + most + " -" + most + " 1; 200 " + most + " " + most + " -1"),
		of("1 2 3 1; 1 2 4 1; 1 3 2 1; 2 0 0 1"), wide(299, 1), wide(300, 1000000), wide(300, -1),
	}
}

// P4.1 to P4.6: what is not formed is refused by every function, wherever it stands.
func TestBadBags(t *testing.T) {
	for _, b := range badBags() {
		for _, l := range []int{0, 1} {
			pair := []api.Bag{b, of(exampleB)}
			x, y := pair[l], pair[1-l]
			sum, e := bag.Add(x, y)
			mustBe(t, len(sum) == 0 && e == api.ErrArg, "Add", b, sum, e)
			product, e := bag.Pair(x, y, 1)
			mustBe(t, len(product) == 0 && e == api.ErrArg, "Pair", b, product, e)
			edits, e := bag.Edits(x, y)
			mustBe(t, len(edits) == 0 && e == api.ErrArg, "Edits", b, edits, e)
		}
		mustBe(t, bag.Check(b) == api.ErrArg, "Check", b)
		contrary, e := bag.Neg(b)
		mustBe(t, len(contrary) == 0 && e == api.ErrArg, "Neg", b, contrary, e)
		there, missing, e := bag.Split(b)
		mustBe(t, len(there) == 0 && len(missing) == 0 && e == api.ErrArg, "Split", b, there, missing, e)
		parts, e := bag.Parts(b, []int{1})
		mustBe(t, len(parts) == 0 && e == api.ErrArg, "Parts", b, parts, e)
		for _, n := range []int{0, 1, -1, math.MaxInt} {
			shifted, e := bag.Shift(b, n)
			mustBe(t, len(shifted) == 0 && e == api.ErrArg, "Shift", b, shifted, e)
		}
		done, e := bag.Do(b, nil)
		mustBe(t, len(done) == 0 && e == api.ErrArg, "Do", b, done, e)
		text, e := bag.Print(b)
		mustBe(t, text == "" && e == api.ErrArg, "Print", b, text, e)
		l, e := bag.Bytes(b)
		mustBe(t, len(l) == 0 && e == api.ErrArg, "Bytes", b, l, e)
	}
}
