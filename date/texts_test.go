package date_test

import (
	"fmt"
	"math/rand"
	"strings"
	"testing"

	"afterword/api"
	"afterword/date"
)

// P1.8: the chapter's examples.
func TestTextExamples(t *testing.T) {
	for i, x := range []struct {
		s string
		c api.DateCivil
		e api.Errno
	}{
		{"2026-11-18", civil(2026, 11, 18), api.OK}, {"2026-2-30", api.DateCivil{}, api.ErrText}, {"-0044-03-15", civil(-44, 3, 15), api.OK},
	} {
		if c, e := date.Parse(x.s); c != x.c || e != x.e {
			t.Error(i, c, e)
		}
	}
	if s, e := date.RuleText(rule(api.DateMonth, 0, 3, -1, 0)); s != "the 1 last of every 3 months from 2000-01-01" || e != api.OK {
		t.Error(s, e)
	}
}

// P1.8: texts of dates, and what is read of them.
func TestDateTexts(t *testing.T) {
	for _, c := range someDates() {
		want := fmt.Sprintf("%04d-%02d-%02d", c.Year, c.Month, c.Day)
		if c.Year < 0 {
			want = fmt.Sprintf("-%04d-%02d-%02d", -c.Year, c.Month, c.Day)
		}
		s, e := date.Text(c)
		back, f := date.Parse(want)
		if s != want || back != c || e != api.OK || f != api.OK {
			t.Fatal(c, s, back, e, f)
		}
	}
	for _, c := range badDates() {
		if s, e := date.Text(c); s != "" || e != api.ErrArg {
			t.Error(c, s, e)
		}
	}
}

// P1.8: the texts of rules of each kind.
func TestRuleTexts(t *testing.T) {
	for i, x := range []struct {
		r api.DateRule
		s string
	}{
		{rule(api.DateDays, 0, 3, 0, 0), "every 3 days from 2000-01-01"}, {rule(api.DateDays, low, 1000, 0, 0), "every 1000 days from -9999-01-01"},
		{rule(api.DateMonth, -1, 1, 31, 0), "the 31 of every 1 months from 1999-12-31"}, {rule(api.DateMonth, high, 12, -31, 0), "the 31 last of every 12 months from 9999-12-31"},
		{rule(api.DateNth, 0, 1, 0, 1), "the 1 mon of every 1 months from 2000-01-01"}, {rule(api.DateNth, 0, 1, 1, 2), "the 2 tue of every 1 months from 2000-01-01"}, {rule(api.DateNth, 0, 1, 2, 3), "the 3 wed of every 1 months from 2000-01-01"}, {rule(api.DateNth, 0, 1, 3, 4), "the 4 thu of every 1 months from 2000-01-01"}, {rule(api.DateNth, 0, 1, 4, 5), "the 5 fri of every 1 months from 2000-01-01"}, {rule(api.DateNth, 0, 1, 5, -1), "the 1 last sat of every 1 months from 2000-01-01"}, {rule(api.DateNth, 0, 10, 6, -5), "the 5 last sun of every 10 months from 2000-01-01"},
	} {
		s, e := date.RuleText(x.r)
		r, f := date.ParseRule(x.s)
		if s != x.s || r != x.r || e != api.OK || f != api.OK {
			t.Error(i, s, r, e, f)
		}
	}
	for _, r := range badRules() {
		if s, e := date.RuleText(r); s != "" || e != api.ErrArg {
			t.Error(r, s, e)
		}
	}
}

// P1.8: what is written is read as what it was.
func TestRuleTextsBack(t *testing.T) {
	r := rand.New(rand.NewSource(5))
	for range 20000 {
		x := someRule(r, low, high-low+1)
		s, e := date.RuleText(x)
		back, f := date.ParseRule(s)
		if back != x || e != api.OK || f != api.OK {
			t.Fatal(x, s, back, e, f)
		}
	}
}

// changed are the texts that a text becomes if it is cut, or one of its bytes goes, comes, or is another one.
func changed(s string) []string {
	out := []string{s + s, s + " ", " " + s, strings.ToUpper(s), s + "\n", s + "\x00"}
	for i := range len(s) {
		out = append(out, s[:i], s[i:], s[:i]+s[i+1:])
		for _, c := range []byte("-+0123456789 \tadelmnorstuT\xc3\x00") {
			out = append(out, s[:i]+string(rune(c))+s[i:], s[:i]+string([]byte{c})+s[i+1:])
		}
	}
	for _, w := range []string{"last ", "of ", "mon ", "every ", "the ", "1 "} {
		for i := range len(s) {
			if i == 0 || s[i-1] == ' ' {
				out = append(out, s[:i]+w+s[i:], s[:i]+strings.TrimPrefix(s[i:], w))
			}
		}
	}
	return out
}

// P1.8: nothing is read but what is written.
func TestNothingElse(t *testing.T) {
	for _, s := range []string{"2026-11-18", "-0044-03-15", "0000-02-29", "2024-02-29", "-9999-01-01"} {
		for _, x := range changed(s) {
			c, e := date.Parse(x)
			if e != api.OK && (e != api.ErrText || c != (api.DateCivil{})) {
				t.Errorf("%q: %v %v", x, c, e)
			}
			if back, f := date.Text(c); e == api.OK && (back != x || f != api.OK) {
				t.Errorf("%q: %v %q", x, c, back)
			}
		}
	}
	for _, s := range []string{"every 3 days from 2000-01-01", "the 1 of every 10 months from 2000-01-01", "the 1 last of every 1 months from -2000-12-31", "the 2 tue of every 12 months from 2000-01-01", "the 5 last sun of every 1000 months from 2000-01-01"} {
		for _, x := range changed(s) {
			r, e := date.ParseRule(x)
			if e != api.OK && (e != api.ErrText || r != (api.DateRule{})) {
				t.Errorf("%q: %v %v", x, r, e)
			}
			if back, f := date.RuleText(r); e == api.OK && (back != x || f != api.OK) {
				t.Errorf("%q: %v %q", x, r, back)
			}
		}
	}
}

// P1.8: texts that come near to one.
func TestTextErrors(t *testing.T) {
	for _, s := range []string{
		"", "-", "--", "2026", "2026-11", "2026-11-", "2026-02-29", "1900-02-29", "2026-04-31", "2026-00-10", "2026-13-10", "2026-10-00", "2026-10-32", "-0000-01-01", "+2026-01-01", "10000-01-01", "-10000-01-01", "026-01-01", "2026/01/01", "2026-01/01", "2026-1-01", "2026-001-1", "--26-01-01", "2026--1-01", "２026-01-01", strings.Repeat("2026-01-01", 1000),
	} {
		if c, e := date.Parse(s); c != (api.DateCivil{}) || e != api.ErrText {
			t.Errorf("%q: %v %v", s, c, e)
		}
		if r, e := date.ParseRule("every 1 days from " + s); r != (api.DateRule{}) || e != api.ErrText {
			t.Errorf("%q: %v %v", s, r, e)
		}
	}
	for _, s := range []string{
		"", " ", "every", "the", "the 1", "the 1 last", "the 1 last mon", "the 1 mon", "the 1 of", "the 1 of every", "every 1", "every 1 days", "every 1 days from", "2000-01-01",
		"every 0 days from 2000-01-01", "every 01 days from 2000-01-01", "every 1001 days from 2000-01-01", "every 99999999999999999999 days from 2000-01-01", "every -1 days from 2000-01-01", "every +1 days from 2000-01-01", "every 1 months from 2000-01-01", "every 1 day from 2000-01-01", "of every 1 months from 2000-01-01",
		"the 0 of every 1 months from 2000-01-01", "the 32 of every 1 months from 2000-01-01", "the 0 last of every 1 months from 2000-01-01", "the 32 last of every 1 months from 2000-01-01", "the 01 of every 1 months from 2000-01-01", "the 1 of every 1 days from 2000-01-01", "the last of every 1 months from 2000-01-01", "the -1 of every 1 months from 2000-01-01", "the last 1 of every 1 months from 2000-01-01",
		"the 0 mon of every 1 months from 2000-01-01", "the 6 mon of every 1 months from 2000-01-01", "the 6 last mon of every 1 months from 2000-01-01", "the 1 mon last of every 1 months from 2000-01-01", "the 1 mon tue of every 1 months from 2000-01-01", "the 1 Mon of every 1 months from 2000-01-01", "the 1 monday of every 1 months from 2000-01-01", "the mon of every 1 months from 2000-01-01",
		"every 1 days from 2000-01-01 2000-01-01", "the 5 last sun of every 1 months from 2000-01-01 x", "every 1 days  from 2000-01-01", "every 1 days\tfrom 2000-01-01", strings.Repeat(" ", 100000),
	} {
		if r, e := date.ParseRule(s); r != (api.DateRule{}) || e != api.ErrText {
			t.Errorf("%q: %v %v", s, r, e)
		}
	}
}
