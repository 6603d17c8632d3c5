package bag

import "afterword/api"

// left are the bytes that are left to read.
type left struct{ bytes []byte }

// reader reads items, one behind the other.
type reader struct {
	left
	items api.Bag // those that are read
}

// noBag is what a reader gives up with.
type noBag struct{}

func giveUp() { panic(noBag{}) }

// reading returns the bag that is read from all of some bytes, or ErrText where a reader gives up.
func reading(l []byte, read func(*reader)) (out api.Bag, e api.Errno) {
	defer func() {
		if recover() != nil {
			out, e = nil, api.ErrText
		}
	}()
	r := &reader{left: left{l}}
	read(r)
	if !r.done() || !isBag(r.items) {
		giveUp()
	}
	return r.items, api.OK
}

// put gives up early, lest a long text become a long list.
func (r *reader) put(x api.BagItem) {
	if len(r.items) == api.BagItems {
		giveUp()
	}
	r.items = append(r.items, x)
}

func (l *left) done() bool { return len(l.bytes) == 0 }

func (l *left) next() byte {
	if l.done() {
		giveUp()
	}
	b := l.bytes[0]
	l.bytes = l.bytes[1:]
	return b
}

func (l *left) want(text string) {
	for _, b := range []byte(text) {
		if l.next() != b {
			giveUp()
		}
	}
}
