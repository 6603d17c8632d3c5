package read

import (
	"maps"
	"slices"
	"strconv"
	"strings"

	"afterword/api"
)

// What may be asked for beside keywords and signs, which stand for themselves; each is an example of its own.
const (
	anyName    = "a"
	anyInteger = "0"
	theEnd     = ""
)

// left are the tokens that are left to read, and what stands behind them.
type left struct {
	tokens []api.ReadToken
	behind api.ReadToken
}

// reader reads what the grammar says.
type reader struct {
	left
	srcs  []string        // which names are those of sources
	posts map[string]form // by their first words
	heads []string        // the first words of all Posts
	asked map[string]bool // all that was asked for when no token was left
	to    int             // the byte behind the last token that was taken
}

// broken is what a reader gives up with.
type broken struct{ fault api.ReadFault }

func newReader(l left) *reader {
	posts := forms()
	return &reader{left: l, posts: posts, heads: slices.Sorted(maps.Keys(posts)), asked: map[string]bool{}}
}

// attempt returns what is read, or where the reader gave up, and whether it did not.
func attempt[T any](read func() T) (out T, fault api.ReadFault, ok bool) {
	defer func() {
		if b, is := recover().(broken); is {
			fault = b.fault
		}
	}()
	return read(), api.ReadFault{}, true
}

// scan returns the tokens of a text ahead of its first wrong byte.
func scan(text string) (left, api.Errno) {
	if len(text) > api.ReadLong {
		return left{}, api.ErrLong
	}
	var l left
	for t := range tokens(text) {
		if t.Kind == 0 {
			l.behind = t
			break
		}
		l.tokens = append(l.tokens, t)
	}
	return l, api.OK
}

// scanAll returns the tokens of a text without wrong bytes.
func scanAll(text string) (left, api.Errno) {
	l, e := scan(text)
	if e == api.OK && l.hasWrong() {
		return left{}, api.ErrText
	}
	return l, e
}

// hasWrong reports whether a wrong byte ends the tokens of a text: the end has no bytes.
func (l left) hasWrong() bool { return l.behind.Text != "" }

func (l left) next() api.ReadToken {
	if len(l.tokens) == 0 {
		return l.behind
	}
	return l.tokens[0]
}

func faultAt(t api.ReadToken) api.ReadFault {
	return api.ReadFault{At: t.At, Line: t.Line, Text: t.Text}
}

// word is what one asks for to get a token.
func word(t api.ReadToken) string {
	switch t.Kind {
	case api.ReadName:
		return anyName
	case api.ReadInt:
		return anyInteger
	}
	return t.Text
}

// take takes the next token if it is one of some words, and reports whether it was.
func (r *reader) take(words ...string) (api.ReadToken, bool) {
	if len(r.tokens) == 0 {
		r.note(words...)
		return api.ReadToken{}, false
	}
	t := r.tokens[0]
	if !slices.Contains(words, word(t)) {
		return api.ReadToken{}, false
	}
	r.tokens = r.tokens[1:]
	r.to = t.At + len(t.Text)
	return t, true
}

// want takes the next token, which must be one of some words.
func (r *reader) want(words ...string) api.ReadToken {
	t, ok := r.take(words...)
	if !ok {
		r.giveUp()
	}
	return t
}

// wantEnd asks that no token is left.
func (r *reader) wantEnd() {
	if len(r.tokens) > 0 {
		r.giveUp()
	}
	r.note(theEnd)
}

func (r *reader) note(words ...string) {
	for _, w := range words {
		r.asked[w] = true
	}
}

func (r *reader) giveUp() { panic(broken{faultAt(r.next())}) }

// since is the spot from a byte to the last token that was taken.
func (r *reader) since(from int) api.ReadSpot { return api.ReadSpot{From: from, To: r.to} }

// list reads one element, and another one behind each of some words, and joins them from the left.
func list[T any](r *reader, read func() T, join func(word string, a, b T) T, words ...string) T {
	out := read()
	for t, ok := r.take(words...); ok; t, ok = r.take(words...) {
		x := read()
		out = join(t.Text, out, x)
	}
	return out
}

// number needs no care for what runs over: integers have few digits.
func number(text string) int {
	n, _ := strconv.Atoi(strings.Replace(text, "~", "-", 1))
	return n
}
