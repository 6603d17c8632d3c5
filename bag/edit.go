package bag

import (
	"cmp"
	"slices"

	"afterword/api"
)

// editsTo returns the edits that come to some items, which are in order.
func editsTo(d api.Bag) []api.BagEdit {
	come, gone := split(d)
	byKeys(come)
	byKeys(gone)
	var out []api.BagEdit
	for len(come) > 0 || len(gone) > 0 {
		x := nextEdit(come, gone)
		if x.Do != api.BagGone {
			come = take(come, x.N)
		}
		if x.Do != api.BagSay {
			gone = take(gone, x.N)
		}
		out = append(out, x)
	}
	return out
}

// byKeys sorts items by their keys, and leaves those of a key in their order.
func byKeys(b api.Bag) {
	slices.SortStableFunc(b, func(x, y api.BagItem) int { return cmp.Compare(x.Rec.Key, y.Rec.Key) })
}

// nextEdit is the edit of the first ones that come and go: if a list's first key is the lesser one, the other list has nothing of it left.
func nextEdit(come, gone api.Bag) api.BagEdit {
	switch {
	case len(come) == 0 || len(gone) > 0 && gone[0].Rec.Key < come[0].Rec.Key:
		return api.BagEdit{Do: api.BagGone, Old: gone[0].Rec, N: gone[0].N}
	case len(gone) == 0 || come[0].Rec.Key < gone[0].Rec.Key:
		return api.BagEdit{Do: api.BagSay, New: come[0].Rec, N: come[0].N}
	}
	return api.BagEdit{Do: api.BagTurn, Old: gone[0].Rec, New: come[0].Rec, N: min(come[0].N, gone[0].N)}
}

// take takes the first item n times away.
func take(b api.Bag, n int) api.Bag {
	b[0].N -= n
	if b[0].N == 0 {
		return b[1:]
	}
	return b
}
