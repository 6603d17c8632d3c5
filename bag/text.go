package bag

import (
	"bytes"
	"strconv"
	"strings"

	"afterword/api"
)

const (
	betweenNumbers = " "
	betweenItems   = "; "
)

func textOf(b api.Bag) string {
	var items []string
	for _, x := range b {
		items = append(items, itemText(x))
	}
	return strings.Join(items, betweenItems)
}

func itemText(x api.BagItem) string {
	var words []string
	for _, n := range []int{x.Rec.At, x.Rec.Key, x.Rec.Val, x.N} {
		words = append(words, strconv.Itoa(n))
	}
	return strings.Join(words, betweenNumbers)
}

// text reads the items of a text.
func (r *reader) text() {
	for !r.done() {
		if len(r.items) > 0 {
			r.want(betweenItems)
		}
		r.textItem()
	}
}

func (r *reader) textItem() {
	var x api.BagItem
	x.Rec.At = r.decimal()
	r.want(betweenNumbers)
	x.Rec.Key = r.decimal()
	r.want(betweenNumbers)
	x.Rec.Val = r.decimal()
	r.want(betweenNumbers)
	x.N = r.decimal()
	r.put(x)
}

// decimal needs no care for zeros or signs ahead of digits: what is not written is not read.
func (r *reader) decimal() int {
	word := r.word()
	n, err := strconv.Atoi(word)
	if err != nil || strconv.Itoa(n) != word {
		giveUp()
	}
	return n
}

// word takes what stands ahead of the next blank, semicolon or end.
func (l *left) word() string {
	n := bytes.IndexAny(l.bytes, betweenItems)
	if n < 0 {
		n = len(l.bytes)
	}
	out := string(l.bytes[:n])
	l.bytes = l.bytes[n:]
	return out
}
