package bag

import (
	"iter"
	"math"

	"afterword/api"
)

// cut returns the parts of a bag at increasing times.
func cut(b api.Bag, times []int) []api.Bag {
	var out []api.Bag
	from := math.MinInt
	for _, t := range times {
		out = append(out, part(b, from, t))
		from = t
	}
	return append(out, part(b, from, math.MaxInt)) // no record has a time that is as great
}

func part(b api.Bag, from, to int) api.Bag {
	var out api.Bag
	for x := range between(b, from, to) {
		out = append(out, x)
	}
	return out
}

// between gives the items from one time to below another one.
func between(b api.Bag, from, to int) iter.Seq[api.BagItem] {
	return func(yield func(api.BagItem) bool) {
		for _, x := range b {
			if x.Rec.At >= to {
				return
			}
			if x.Rec.At >= from && !yield(x) {
				return
			}
		}
	}
}

// later returns the bag n later.
func later(b api.Bag, n int) api.Bag {
	n = clamp(n, api.RecTime+1) // beyond that nothing is left, and sums could run over
	var out api.Bag
	for _, x := range b {
		x.Rec.At += n
		if within(x.Rec.At, 0, api.RecTime) {
			out = append(out, x)
		}
	}
	return out
}

// product returns how often the records of a product are there.
func product(a, b api.Bag, apart int) sums {
	s := sums{}
	for _, x := range a {
		for _, y := range b {
			if x.Rec.Key == y.Rec.Key && max(x.Rec.At, y.Rec.At)-min(x.Rec.At, y.Rec.At) <= apart {
				s.add(met(x.Rec, y.Rec), x.N*y.N)
			}
		}
	}
	return s
}

// met is what two records of a key become together.
func met(x, y api.Rec) api.Rec {
	return api.Rec{At: max(x.At, y.At), Key: x.Key, Val: clamp(x.Val+y.Val, api.RecMost)}
}

// clamp returns the number from -most to most that is nearest to n.
func clamp(n, most int) int { return max(-most, min(n, most)) }
