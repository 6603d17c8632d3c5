package bag

import (
	"cmp"
	"maps"
	"slices"

	"afterword/api"
)

// record is a record that knows its order.
type record api.Rec

// sums say how often records are there, however much that is; also 0 times.
type sums map[record]int

func (r record) compare(o record) int {
	return cmp.Or(cmp.Compare(r.At, o.At), cmp.Compare(r.Key, o.Key), cmp.Compare(r.Val, o.Val))
}

func (s sums) add(r api.Rec, n int) { s[record(r)] += n }

// addAll adds items so many times.
func (s sums) addAll(l []api.BagItem, times int) {
	for _, x := range l {
		s.add(x.Rec, times*x.N)
	}
}

func (s sums) edit(l []api.BagEdit) {
	for _, x := range l {
		if x.Do != api.BagSay {
			s.add(x.Old, -x.N)
		}
		if x.Do != api.BagGone {
			s.add(x.New, x.N)
		}
	}
}

// items lists in order what is there, or missing; there may be more of it than a bag has.
func (s sums) items() api.Bag {
	var out api.Bag
	for _, r := range sorted(s, record.compare) {
		if n := s[r]; n != 0 {
			out = append(out, api.BagItem{Rec: api.Rec(r), N: n})
		}
	}
	return out
}

// formed returns the items as a bag, if they are one.
func (s sums) formed() (api.Bag, api.Errno) {
	out := s.items()
	if !isBag(out) {
		return nil, api.ErrLong
	}
	return out, api.OK
}

// sorted returns the keys of a map in order.
func sorted[K comparable, V any](m map[K]V, compare func(a, b K) int) []K {
	return slices.SortedFunc(maps.Keys(m), compare)
}

func contrary(b api.Bag) api.Bag {
	var out api.Bag
	for _, x := range b {
		out = append(out, api.BagItem{Rec: x.Rec, N: -x.N})
	}
	return out
}

// split returns what is there, and the contrary of what is missing.
func split(b api.Bag) (there, missing api.Bag) {
	for _, x := range b {
		if x.N > 0 {
			there = append(there, x)
		} else {
			missing = append(missing, x)
		}
	}
	return there, contrary(missing)
}
