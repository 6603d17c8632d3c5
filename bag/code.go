package bag

import "afterword/api"

// The bytes of a number are below more if they are the last ones, and have it added if they are not.
const (
	groupBits = 7
	more      = 1 << groupBits
)

func bytesOf(b api.Bag) []byte {
	out := appendNumber(nil, len(b))
	for i, x := range b {
		var before api.Rec
		if i > 0 {
			before = b[i-1].Rec
		}
		sameAt := i > 0 && x.Rec.At == before.At
		sameKey := sameAt && x.Rec.Key == before.Key
		out = appendNumber(out, x.Rec.At-before.At)
		out = appendAbove(out, x.Rec.Key, before.Key, sameAt)
		out = appendAbove(out, x.Rec.Val, before.Val, sameKey)
		out = appendInteger(out, x.N)
	}
	return out
}

// appendNumber writes a number from 0 on.
func appendNumber(out []byte, n int) []byte {
	for n >= more {
		out = append(out, byte(n%more+more))
		n /= more
	}
	return append(out, byte(n))
}

func appendInteger(out []byte, n int) []byte {
	if n < 0 {
		return appendNumber(out, -2*n-1)
	}
	return appendNumber(out, 2*n)
}

// appendAbove writes how much n is above the one before, if it cannot be below it, as all ahead of both is the same.
func appendAbove(out []byte, n, before int, same bool) []byte {
	if same {
		return appendNumber(out, n-before)
	}
	return appendInteger(out, n)
}

// coded reads the items of a bag's bytes.
func (r *reader) coded() {
	for range r.number() {
		r.codedItem()
	}
}

func (r *reader) codedItem() {
	var x api.BagItem
	var before api.Rec
	first := len(r.items) == 0
	if !first {
		before = r.items[len(r.items)-1].Rec
	}
	x.Rec.At = before.At + r.number()
	sameAt := !first && x.Rec.At == before.At
	x.Rec.Key = r.above(before.Key, sameAt)
	sameKey := sameAt && x.Rec.Key == before.Key
	x.Rec.Val = r.above(before.Val, sameKey)
	x.N = r.integer()
	r.put(x)
}

func (r *reader) number() int {
	n := 0
	for i := range api.BagGroup {
		b := int(r.next())
		n += (b % more) << (groupBits * i)
		if b == 0 && i > 0 {
			giveUp()
		}
		if b < more {
			return n
		}
	}
	panic(noBag{})
}

func (r *reader) integer() int {
	n := r.number()
	if n%2 == 0 {
		return n / 2
	}
	return -(n + 1) / 2
}

// above reads what appendAbove writes.
func (r *reader) above(before int, same bool) int {
	if same {
		return before + r.number()
	}
	return r.integer()
}
