package read_test

import (
	"math/rand/v2"
	"slices"
	"strings"
	"testing"

	"afterword/api"
	"afterword/read"
)

// faultIs holds the fault of a text, and what can come next behind it, against all ways to read it.
func faultIs(t *testing.T, text string) {
	t.Helper()
	l, at, wrong := cut(text)
	n, c := follow("Text", l)
	want := api.ReadFault{At: at, Line: lineOf(text, at)}
	none := false
	switch {
	case n < len(l):
		want = api.ReadFault{At: l[n].At, Line: l[n].Line, Text: l[n].Text}
	case wrong:
		want.Text = text[at : at+1]
	default:
		none = c.isWhole("Text")
	}
	f, e := read.Fault(text)
	if none {
		mustBe(t, e == api.ErrNone && f == api.ReadFault{}, text, f, e)
	} else {
		mustBe(t, e == api.OK && f == want, text, f, e, want)
	}
	nextIs(t, text, n == len(l) && !wrong, c)
	if none {
		return
	}
	can, e := read.Next(text[:want.At]) // as the promise says
	mustBe(t, e == api.OK && len(can) > 0, text, want, e)
	if n < len(l) {
		mustBe(t, !slices.Contains(can, class(l[n])), text, want, can)
	}
}

func nextIs(t *testing.T, text string, begins bool, c *chart) {
	t.Helper()
	l, e := read.Next(text)
	if !begins {
		mustBe(t, e == api.ErrText && len(l) == 0, text, l, e)
		return
	}
	var want []string
	for _, w := range candidates() {
		if c.next()[w] {
			want = append(want, w)
		}
	}
	if c.isWhole("Text") {
		want = append(want, "")
	}
	mustBe(t, e == api.OK && slices.Equal(l, want), text, l, e, want)
}

// P3.2: the chapter's examples.
func TestFaultExamples(t *testing.T) {
	for text, want := range map[string]api.ReadFault{
		"source a let x =":     {At: 16, Line: 1},
		"source a let x = a a": {At: 19, Line: 1, Text: "a"},
		"source a,":            {At: 9, Line: 1},
		"":                     {At: 0, Line: 1},
	} {
		f, e := read.Fault(text)
		mustBe(t, e == api.OK && f == want, text, f, e)
	}
	f, e := read.Fault(exampleText)
	mustBe(t, e == api.ErrNone && f == api.ReadFault{}, f, e)
	for text, want := range map[string][]string{
		"source a":                     {"let", ",", ""},
		"source a let x = a where val": append(strings.Fields("and at each group lack less let once pair rest same shift slide total where + - *"), ""),
		"":                             {"source"},
	} {
		l, e := read.Next(text)
		mustBe(t, e == api.OK && slices.Equal(l, want), text, l, e)
	}
	l, e := read.Next("let")
	mustBe(t, len(l) == 0 && e == api.ErrText, l, e)
}

// P3.2: where faults are, beside wrong bytes, in lines, and at the end.
func TestFaultPlaces(t *testing.T) {
	for text, want := range map[string]api.ReadFault{
		" \n % x":                                  {At: 6, Line: 2},
		"source a\n,\n\n":                          {At: 12, Line: 4},
		"source a let\nx = a let\n let":            {At: 24, Line: 3, Text: "let"},
		"let x ?":                                  {At: 0, Line: 1, Text: "let"},
		"source a ? let":                           {At: 9, Line: 1, Text: "?"},
		"source a ?? let x = a":                    {At: 9, Line: 1, Text: "?"},
		"? let":                                    {At: 0, Line: 1, Text: "?"},
		"source a\nlet x = 07":                     {At: 17, Line: 2, Text: "0"},
		"source a\nlet x = a shift 07":             {At: 25, Line: 2, Text: "0"},
		"source a let x = a shift ~0":              {At: 25, Line: 1, Text: "~"},
		"source a let x = a shift ~":               {At: 25, Line: 1, Text: "~"},
		"source abcdefghi":                         {At: 7, Line: 1, Text: "a"},
		"source a \xff":                            {At: 9, Line: 1, Text: "\xff"},
		"source \u00e9":                            {At: 7, Line: 1, Text: "\xc3"},
		"source a\r":                               {At: 8, Line: 1, Text: "\r"},
		"source a let x = a where val ?":           {At: 29, Line: 1, Text: "?"},
		"source a let x = a where ?":               {At: 25, Line: 1, Text: "?"},
		"source a, prev":                           {At: 10, Line: 1, Text: "prev"},
		"source a let x = a less 5":                {At: 19, Line: 1, Text: "less"},
		"source a let x = a where a":               {At: 25, Line: 1, Text: "a"},
		"source a let x = a where 1 less 2 less 3": {At: 34, Line: 1, Text: "less"},
		"source a let x = a each 1":                {At: 25, Line: 1},
		"source a let x = a each 1, 2, 3":          {At: 28, Line: 1, Text: ","},
		"source a let x = a pair a once":           {At: 26, Line: 1, Text: "once"},
		"source a let x = a total 5":               {At: 25, Line: 1, Text: "5"},
		"source a let x = a group 5 by total":      {At: 30, Line: 1, Text: "total"},
		"source a let x = (a)) let":                {At: 20, Line: 1, Text: ")"},
		"source a let x = (a":                      {At: 19, Line: 1},
		"source a source b":                        {At: 9, Line: 1, Text: "source"},
	} {
		f, e := read.Fault(text)
		mustBe(t, e == api.OK && f == want, text, f, e)
	}
	for _, text := range []string{"source a", "source a let x = a shift ~12345", "source a let x = a % ?\n", "source a let x = y let x = prev 0 z lack x within ~7"} {
		f, e := read.Fault(text)
		mustBe(t, e == api.ErrNone && f == api.ReadFault{}, text, f, e)
	}
}

// P3.2: on all ways that some rows of tokens go on, Next says how; at each step all that it names can be read, and nothing else.
func TestWalks(t *testing.T) {
	r := rand.New(rand.NewPCG(32, 32))
	seen := map[string]bool{}
	for range 120 {
		text := ""
		for range 24 {
			faultIs(t, text)
			l, e := read.Next(text)
			if e != api.OK || len(l) == 0 {
				t.Fatal(text, e)
			}
			for _, w := range candidates() {
				f, e := read.Fault(text + " " + w)
				mustBe(t, slices.Contains(l, w) == (e != api.OK || f.At > len(text)+1 || f.Text == ""), text, w, f, e)
			}
			_, e = read.Fault(text)
			mustBe(t, slices.Contains(l, "") == (e == api.ErrNone), text, e)
			for _, w := range l {
				seen[w] = true
			}
			w := pick(r, l)
			if w == "" || w == "let" && r.IntN(3) > 0 {
				w = l[0]
			}
			text += " " + w
		}
	}
	for _, w := range append(candidates(), "") {
		never := slices.Contains(strings.Fields("after both else in is of or"), w)
		mustBe(t, seen[w] != never, w)
	}
}

// spoil changes some of a list of words.
func spoil(r *rand.Rand, l []string) []string {
	l = slices.Clone(l)
	for range 1 + r.IntN(2) {
		i := r.IntN(len(l) + 1)
		w := pick(r, candidates())
		switch r.IntN(5) {
		case 0:
			l = l[:i]
		case 1:
			l = slices.Insert(l, i, w)
		case 2:
			l = slices.Delete(l, min(i, max(0, len(l)-1)), min(i+1, len(l)))
		case 3:
			if i < len(l) {
				l[i] = w
			}
		case 4:
			l = slices.Insert(l, i, pick(r, []string{"?", "07", "~0", "\xff", "abcdefghi", "~", "5x", "%"}))
		}
	}
	return l
}

// P3.2: programs in which tokens are missing, others, or too many, or no tokens at all.
func TestSpoiled(t *testing.T) {
	r := rand.New(rand.NewPCG(33, 33))
	between := []string{" ", " ", "\n", " % let\n"}
	for _, p := range randomProgs(33, 1500) {
		s := loose(r).prog(p)
		faultIs(t, s.text)
		text := ""
		for _, w := range spoil(r, words(s.all)) {
			text += w + pick(r, between)
		}
		faultIs(t, text)
		faultIs(t, s.text[:r.IntN(len(s.text)+1)])
	}
}

// P3.2: all rows of up to two tokens behind some beginnings.
func TestAllRows(t *testing.T) {
	for _, text := range []string{"", "source a", "source a let x = a", "source a let x = a where (1 + val)", "source a let x = (a pair a within 1 as 1", "source a let x = prev 1"} {
		for _, v := range candidates() {
			faultIs(t, text+" "+v)
			for _, w := range candidates() {
				faultIs(t, text+" "+v+" "+w)
			}
		}
	}
}

// P3.2: which errors there are, and which comes first.
func TestFaultErrors(t *testing.T) {
	long := strings.Repeat(" ", 20000)
	f, e := read.Fault(long)
	mustBe(t, e == api.OK && f == api.ReadFault{At: 20000, Line: 1}, f, e)
	l, e := read.Next(long)
	mustBe(t, e == api.OK && slices.Equal(l, []string{"source"}), l, e)
	for _, text := range []string{long + " ", long + "?", "?" + long, "let" + long, "source a" + long} {
		f, e := read.Fault(text)
		mustBe(t, e == api.ErrLong && f == api.ReadFault{}, f, e)
		l, e := read.Next(text)
		mustBe(t, e == api.ErrLong && len(l) == 0, l, e)
	}
	for _, text := range []string{"?", "source ?", "source a ?", "let ?", "source a a", "source a let x = a )"} {
		l, e := read.Next(text)
		mustBe(t, e == api.ErrText && len(l) == 0, text, l, e)
	}
}

// P3.2: brackets as deep as a text is long.
func TestDeepBrackets(t *testing.T) {
	for _, head := range []string{"source a let x = ", "source a let x = a where "} {
		n := (20000 - len(head) - 1) / 2
		text := head + strings.Repeat("(", n)
		f, e := read.Fault(text)
		mustBe(t, e == api.OK && f == api.ReadFault{At: len(text), Line: 1}, f, e)
		unit := "a"
		if strings.Contains(head, "where") {
			unit = "1"
		}
		text += unit + strings.Repeat(")", n)
		f, e = read.Fault(text)
		mustBe(t, e == api.ErrNone && f == api.ReadFault{}, f, e)
		f, e = read.Fault(text[:len(text)-1])
		mustBe(t, e == api.OK && f == api.ReadFault{At: len(text) - 1, Line: 1}, f, e)
		if len(text) < 20000 {
			f, e = read.Fault(text + ")")
			mustBe(t, e == api.OK && f == api.ReadFault{At: len(text), Line: 1, Text: ")"}, f, e)
		}
	}
}
