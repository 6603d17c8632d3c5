package mean

import (
	"cmp"
	"iter"
	"slices"

	"afterword/api"
)

// known is what is known of a bag: all of it, or what it has up to some time.
type known api.Bag

// window is from one time to another one, both included.
type window struct{ from, to int }

// tooMuch is what a run gives up with.
type tooMuch struct{}

func (w window) has(at int) bool { return w.from <= at && at <= w.to }

// before is the window that becomes this one n later.
func (w window) before(n int) window { return window{w.from - n, w.to - n} }

// in are the items with times in a window.
func (k known) in(w window) known {
	first, _ := slices.BinarySearchFunc(k, w.from, byTime)
	behind, _ := slices.BinarySearchFunc(k, w.to+1, byTime)
	return k[first:max(first, behind)]
}

func byTime(x api.BagItem, at int) int { return cmp.Compare(x.Rec.At, at) }

// of gives the items of a key with times in a window.
func (k known) of(key int, w window) iter.Seq[api.BagItem] {
	return func(yield func(api.BagItem) bool) {
		for _, x := range k.in(w) {
			if x.Rec.Key == key && !yield(x) {
				return
			}
		}
	}
}

// moments gives the times in a window and the keys for which there are records, each pair once.
func (k known) moments(w window) iter.Seq2[int, int] {
	return func(yield func(at, key int) bool) {
		l := k.in(w)
		for i, x := range l {
			again := i > 0 && l[i-1].Rec.At == x.Rec.At && l[i-1].Rec.Key == x.Rec.Key
			if !again && !yield(x.Rec.At, x.Rec.Key) {
				return
			}
		}
	}
}

// last is, of the records of a key up to a time, one of the greatest time with the greatest value.
func (k known) last(key, to int) (r api.Rec, found bool) {
	for _, x := range slices.Backward(k.in(window{0, to})) {
		if x.Rec.Key == key {
			return x.Rec, true
		}
	}
	return api.Rec{}, false
}

func (k known) has(key int, w window) bool {
	r, found := k.last(key, w.to)
	return found && r.At >= w.from
}

// added is the bag with what it has later; what is too much now will not become less.
func (k known) added(l known) known {
	k = append(k, l...)
	if len(k) > api.BagItems || slices.ContainsFunc(l, func(x api.BagItem) bool { return x.N > api.BagMany }) {
		panic(tooMuch{})
	}
	return k
}

func (k known) copied() api.Bag { return api.Bag(slices.Clone(k)) }

// said is the bag of a source.
func said(l []api.Event, src int) known {
	var out []api.BagItem
	for _, v := range l {
		if v.Src == src {
			out = append(out, api.BagItem{Rec: v.Rec, N: 1})
		}
	}
	return summed(out)
}

// summed adds up what there is of equal records.
func summed(l []api.BagItem) known {
	var out known
	for _, x := range slices.SortedFunc(slices.Values(l), byRecord) {
		if n := len(out); n > 0 && out[n-1].Rec == x.Rec {
			out[n-1].N += x.N
		} else {
			out = append(out, x)
		}
	}
	return out
}

func byRecord(x, y api.BagItem) int {
	a, b := x.Rec, y.Rec
	return cmp.Or(cmp.Compare(a.At, b.At), cmp.Compare(a.Key, b.Key), cmp.Compare(a.Val, b.Val))
}

// changed is a new list with what becomes of each element.
func changed[T, U any](l []T, change func(T) U) []U {
	var out []U
	for _, x := range l {
		out = append(out, change(x))
	}
	return out
}
