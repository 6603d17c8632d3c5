package read

import (
	"iter"
	"strings"

	"afterword/api"
	"afterword/term"
)

const (
	keywordText = "after and as at both by count each else great group in is key lack least less let of once or other pair prev rest same shift slide source sum total val where within"
	letters     = "abcdefghijklmnopqrstuvwxyz"
	digits      = "0123456789"
	signs       = "(),=+-*" // in the order in which Next has them
)

// keywords holds the words of the language that are no names.
func keywords() map[string]bool {
	out := map[string]bool{}
	for _, word := range strings.Fields(keywordText) {
		out[word] = true
	}
	return out
}

// tokens yields the tokens of a text, and then one without a kind: the first wrong byte, or the end.
func tokens(text string) iter.Seq[api.ReadToken] {
	return func(yield func(api.ReadToken) bool) {
		words := keywords()
		at, line := 0, 1
		for {
			skipped := blanks(text[at:])
			line += strings.Count(text[at:at+skipped], "\n")
			at += skipped
			kind, s := ahead(text[at:], words)
			if !yield(api.ReadToken{Kind: kind, Text: s, At: at, Line: line}) || kind == 0 {
				return
			}
			at += len(s)
		}
	}
}

// blanks counts the bytes of the blanks and remarks with which a text begins.
func blanks(text string) int {
	n := 0
	for n < len(text) {
		switch text[n] {
		case ' ', '\t', '\n':
			n++
		case '%':
			n += remark(text[n:])
		default:
			return n
		}
	}
	return n
}

// remark counts the bytes of a remark: the end of its line is a blank behind it.
func remark(text string) int {
	if n := strings.IndexByte(text, '\n'); n >= 0 {
		return n
	}
	return len(text)
}

// ahead is the token with which a text begins; where none does, it is the first byte, without a kind.
func ahead(text string, words map[string]bool) (api.ReadKind, string) {
	s := cutOut(text)
	switch {
	case words[s]:
		return api.ReadWord, s
	case term.Name(s):
		return api.ReadName, s
	case isInteger(s):
		return api.ReadInt, s
	case s != "" && strings.Contains(signs, s):
		return api.ReadSign, s
	}
	return 0, first(text)
}

// cutOut is what would be the token, were it one.
func cutOut(text string) string {
	if s := run(text, letters); s != "" {
		return s
	}
	unsigned := strings.TrimPrefix(text, "~")
	if s := run(unsigned, digits); s != "" {
		return text[:len(text)-len(unsigned)+len(s)]
	}
	return first(text)
}

func first(text string) string { return text[:min(1, len(text))] }

// run is as much of a text's beginning as has only some bytes.
func run(text, of string) string { return text[:len(text)-len(strings.TrimLeft(text, of))] }

func isInteger(s string) bool {
	number := strings.TrimPrefix(s, "~")
	if number == "" || len(number) > api.ReadDigit || run(number, digits) != number {
		return false
	}
	return number[0] != '0' || s == "0"
}
