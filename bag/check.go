package bag

import (
	"slices"

	"afterword/api"
)

// areBags reports whether each of some bags is formed.
func areBags(l ...api.Bag) bool { return every(l, isBag) }

func isBag(b api.Bag) bool {
	if len(b) > api.BagItems {
		return false
	}
	for i, x := range b {
		if !isItem(x) || x.N == 0 {
			return false
		}
		if i > 0 && record(b[i-1].Rec).compare(record(x.Rec)) >= 0 {
			return false
		}
	}
	return true
}

// isItem lets an N be 0: what a bag is made of may say so, a bag may not.
func isItem(x api.BagItem) bool { return isRecord(x.Rec) && within(x.N, -api.BagMany, api.BagMany) }

func isRecord(r api.Rec) bool {
	return within(r.At, 0, api.RecTime) && within(r.Key, -api.RecMost, api.RecMost) && within(r.Val, -api.RecMost, api.RecMost)
}

func isEdit(x api.BagEdit) bool {
	if !within(x.N, 1, api.BagMany) {
		return false
	}
	switch x.Do {
	case api.BagSay:
		return x.Old == (api.Rec{}) && isRecord(x.New)
	case api.BagGone:
		return isRecord(x.Old) && x.New == (api.Rec{})
	case api.BagTurn:
		return isRecord(x.Old) && isRecord(x.New) && x.Old != x.New && x.Old.Key == x.New.Key
	}
	return false
}

func within(n, least, most int) bool { return least <= n && n <= most }

func increase(l []int) bool {
	for i := range l {
		if i > 0 && l[i-1] >= l[i] {
			return false
		}
	}
	return true
}

func every[T any](l []T, is func(T) bool) bool {
	return !slices.ContainsFunc(l, func(x T) bool { return !is(x) })
}
