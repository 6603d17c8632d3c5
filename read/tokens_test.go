package read_test

import (
	"math/rand/v2"
	"slices"
	"strings"
	"testing"

	"afterword/api"
	"afterword/read"
	"afterword/term"
)

// tokensAre holds the tokens of a text against those that the rules cut.
func tokensAre(t *testing.T, text string) {
	t.Helper()
	want, _, wrong := cut(text)
	l, e := read.Tokens(text)
	if wrong {
		mustBe(t, len(l) == 0 && e == api.ErrText, text, l, e)
		return
	}
	mustBe(t, slices.Equal(l, want) && e == api.OK, text, l, e)
	for _, x := range l {
		mustBe(t, text[x.At:x.At+len(x.Text)] == x.Text, text, x)
	}
}

// P3.1: the chapter's examples.
func TestTokensExamples(t *testing.T) {
	l, e := read.Tokens("a+~5,b%")
	mustBe(t, e == api.OK && slices.Equal(words(l), []string{"a", "+", "~5", ",", "b"}), l, e)
	for _, text := range []string{"07", "~0", "abcdefghi"} {
		l, e := read.Tokens(text)
		mustBe(t, len(l) == 0 && e == api.ErrText, text, l, e)
	}
	l, e = read.Tokens(exampleText)
	want := strings.Fields("source buy , pay let big = buy where val * 2 less 9 and pay let sums = ( big and prev 5 sums ) group 10 by sum let met = buy pair pay within 3 as val - other")
	mustBe(t, e == api.OK && slices.Equal(words(l), want), l, e)
	mustBe(t, l[0] == api.ReadToken{Kind: api.ReadWord, Text: "source", At: 0, Line: 1}, l[0])
	mustBe(t, l[1] == api.ReadToken{Kind: api.ReadName, Text: "buy", At: 7, Line: 1}, l[1])
	mustBe(t, l[16] == api.ReadToken{Kind: api.ReadWord, Text: "let", At: 72, Line: 3}, l[16])
	mustBe(t, l[23] == api.ReadToken{Kind: api.ReadInt, Text: "5", At: 97, Line: 3}, l[23])
	mustBe(t, l[19] == api.ReadToken{Kind: api.ReadSign, Text: "(", At: 83, Line: 3}, l[19])
}

// P3.1: without tokens.
func TestNoTokens(t *testing.T) {
	for _, text := range []string{"", " ", "\n\t \n", "%", "% let x", "%\n", "%%\n%a\n "} {
		l, e := read.Tokens(text)
		mustBe(t, len(l) == 0 && e == api.OK, text, l, e)
	}
}

// each yields all strings of some of these bytes, up to some length.
func each(bytes string, length int, yield func(s string)) {
	yield("")
	if length == 0 {
		return
	}
	each(bytes, length-1, func(s string) {
		for i := range len(bytes) {
			if len(s) == length-1 {
				yield(s + bytes[i:i+1])
			}
		}
		if s != "" {
			yield(s)
		}
	})
}

// P3.1: all short texts of bytes that matter to each other.
func TestShortTexts(t *testing.T) {
	each("a0~ %\n+?1", 5, func(s string) { tokensAre(t, s) })
	each("ast(~5\t%\n", 5, func(s string) { tokensAre(t, s) })
}

// P3.1: each byte alone, between others, and in a remark.
func TestAllBytes(t *testing.T) {
	for b := range 256 {
		s := string([]byte{byte(b)})
		for _, text := range []string{s, "a" + s, s + "a", "a" + s + "b", "1" + s + "2", "a " + s + " b", s + s, "~" + s, s + "5", "(" + s + ")"} {
			tokensAre(t, text)
		}
		l, e := read.Tokens("a%" + s + "\nb")
		mustBe(t, e == api.OK && len(l) == 2 && l[1].Text == "b" && l[1].Line == 2+strings.Count(s, "\n"), b, l, e)
		if strings.Contains(letters+digits+"(),=+-* \t\n%", s) {
			continue
		}
		l, e = read.Tokens("a " + s + " b")
		mustBe(t, len(l) == 0 && e == api.ErrText, b, l, e)
	}
}

const (
	letters = "abcdefghijklmnopqrstuvwxyz"
	digits  = "0123456789"
)

// P3.1: which integers there are.
func TestIntegers(t *testing.T) {
	for _, s := range []string{"0", "1", "9", "10", "1000000000", "9999999999", "~1", "~9", "~10", "~9999999999"} {
		l, e := read.Tokens(s)
		mustBe(t, e == api.OK && slices.Equal(l, []api.ReadToken{{Kind: api.ReadInt, Text: s, Line: 1}}), s, l, e)
	}
	for _, s := range []string{"00", "01", "12345678901", "~12345678901", "~0", "~00", "~01", "~", "~~1", "~ 1", "~a", "1 ~", "00000000001"} {
		l, e := read.Tokens(s)
		mustBe(t, len(l) == 0 && e == api.ErrText, s, l, e)
	}
	l, e := read.Tokens("5a6~7~8-9 0")
	mustBe(t, e == api.OK && slices.Equal(words(l), []string{"5", "a", "6", "~7", "~8", "-", "9", "0"}), l, e)
}

// P3.1: names and keywords, and what is near a keyword.
func TestWords(t *testing.T) {
	for _, k := range strings.Fields(keywordText) {
		l, e := read.Tokens(k)
		mustBe(t, e == api.OK && slices.Equal(l, []api.ReadToken{{Kind: api.ReadWord, Text: k, Line: 1}}), k, l, e)
		for _, s := range []string{k + "q", "q" + k, k + k, k[1:]} {
			l, e := read.Tokens(s)
			if term.Name(s) {
				mustBe(t, e == api.OK && slices.Equal(l, []api.ReadToken{{Kind: api.ReadName, Text: s, Line: 1}}), s, l, e)
			} else if len(s) > 8 {
				mustBe(t, len(l) == 0 && e == api.ErrText, s, l, e)
			}
		}
	}
	for n := 1; n < 20; n++ {
		s := strings.Repeat("z", n)
		l, e := read.Tokens(s)
		mustBe(t, (e == api.OK) == (n <= 8) && (e == api.ErrText) == (n > 8) && (len(l) == 1) == (n <= 8), n, l, e)
	}
	for _, s := range []string{"A", "aB", "Let", "a_b", "a.b", "\u00e9", "a\u0301", "\u0430", "a\r\nb", "a\vb"} {
		l, e := read.Tokens(s)
		mustBe(t, len(l) == 0 && e == api.ErrText, s, l, e)
	}
}

// P3.1: all signs, with nothing between.
func TestSigns(t *testing.T) {
	text := strings.ReplaceAll(signText, " ", "")
	l, e := read.Tokens(text)
	mustBe(t, e == api.OK && len(l) == 7, l, e)
	for i, x := range l {
		mustBe(t, x == api.ReadToken{Kind: api.ReadSign, Text: text[i : i+1], At: i, Line: 1}, x)
	}
}

// P3.1: which line a token is in.
func TestLines(t *testing.T) {
	l, e := read.Tokens("a\n\nb % c\n% d\n\t e%\nf\n")
	mustBe(t, e == api.OK && slices.Equal(words(l), []string{"a", "b", "e", "f"}), l, e)
	for i, line := range []int{1, 3, 5, 6} {
		mustBe(t, l[i].Line == line, l[i])
	}
}

// P3.1: how long a text may be, and that this comes first.
func TestTokensLong(t *testing.T) {
	for _, s := range []string{"a ", "% ", "  ", "((", "5,"} {
		text := strings.Repeat(s, 10000)
		tokensAre(t, text)
		for _, more := range []string{" ", "?", "a"} {
			l, e := read.Tokens(text + more)
			mustBe(t, len(l) == 0 && e == api.ErrLong, s, more, e)
		}
		l, e := read.Tokens("?" + text)
		mustBe(t, len(l) == 0 && e == api.ErrLong, s, e)
	}
	l, e := read.Tokens(strings.Repeat("?", 1<<20))
	mustBe(t, len(l) == 0 && e == api.ErrLong, e)
}

// P3.1: programs with any blanks and remarks between their tokens.
func TestSpelledTokens(t *testing.T) {
	r := rand.New(rand.NewPCG(31, 31))
	for _, p := range randomProgs(31, 600) {
		for _, s := range []*speller{tight(), loose(r)} {
			s.prog(p)
			l, e := read.Tokens(s.text)
			mustBe(t, e == api.OK && slices.Equal(l, s.all), s.text, l, e)
			tokensAre(t, s.text)
		}
	}
}
