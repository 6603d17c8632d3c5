package date

import (
	"strconv"
	"strings"

	"afterword/api"
)

var weekdays = [...]string{"mon", "tue", "wed", "thu", "fri", "sat", "sun"}

const (
	mostDigits = 4  // no number of a text has more
	mostWords  = 10 // no rule has more
)

// noText is what a reader gives up with.
type noText struct{}

// words are those of a text that are left to read.
type words []string

// Text returns the text of a date.
func Text(c api.DateCivil) (string, api.Errno) {
	if !isDate(c) {
		return "", api.ErrArg
	}
	return dateText(c), api.OK
}

// Parse returns the date that has a text.
func Parse(s string) (api.DateCivil, api.Errno) { return reading(s, readDate) }

// RuleText returns the text of a rule.
func RuleText(r api.DateRule) (string, api.Errno) {
	if !isRule(r) {
		return "", api.ErrArg
	}
	return ruleText(r), api.OK
}

// ParseRule returns the rule that has a text.
func ParseRule(s string) (api.DateRule, api.Errno) { return reading(s, readRule) }

func dateText(c api.DateCivil) string {
	sign := ""
	if c.Year < 0 {
		sign, c.Year = "-", -c.Year
	}
	return sign + padded(c.Year, 4) + "-" + padded(c.Month, 2) + "-" + padded(c.Day, 2)
}

func padded(n, width int) string {
	s := strconv.Itoa(n)
	return strings.Repeat("0", width-len(s)) + s
}

func ruleText(r api.DateRule) string {
	k := kinds()[r.Kind]
	return strings.Join(append(k.head(r), "every", strconv.Itoa(r.Every), k.unit, "from", dateText(dateOf(r.Start))), " ")
}

// reading returns what read makes of a text, or ErrText where it gives up.
func reading[T any](s string, read func(string) T) (out T, e api.Errno) {
	defer func() {
		if recover() != nil {
			e = api.ErrText
		}
	}()
	return read(s), api.OK
}

func giveUp() { panic(noText{}) }

// readDate needs no care for signs of the year 0: what is not written is not read.
func readDate(s string) api.DateCivil {
	digits, below := strings.CutPrefix(s, "-")
	if len(digits) != len("2000-01-01") {
		giveUp()
	}
	c := api.DateCivil{Year: number(digits[:4]), Month: number(digits[5:7]), Day: number(digits[8:])}
	if below {
		c.Year = -c.Year
	}
	if !isDate(c) || dateText(c) != s {
		giveUp()
	}
	return c
}

// readRule needs no care for zeros ahead of numbers, or words behind the end: what is not written is not read.
func readRule(s string) api.DateRule {
	left := words(strings.SplitN(s, " ", mostWords+1))
	r := api.DateRule{Kind: api.DateDays}
	if left.skip("the") {
		readHead(&left, &r)
	}
	left.want("every")
	r.Every = number(left.next())
	left.want(kinds()[r.Kind].unit)
	left.want("from")
	r.Start = dayOf(readDate(left.next()))
	if !isRule(r) || ruleText(r) != s {
		giveUp()
	}
	return r
}

// readHead reads what stands between the first word of a rule by months, and every.
func readHead(left *words, r *api.DateRule) {
	n := number(left.next())
	if left.skip("last") {
		n = -n
	}
	r.Kind, r.On = api.DateMonth, n
	for weekday, name := range weekdays {
		if left.skip(name) {
			r.Kind, r.On, r.Nth = api.DateNth, weekday, n
			break
		}
	}
	left.want("of")
}

func (w *words) next() string {
	if len(*w) == 0 {
		giveUp()
	}
	s := (*w)[0]
	*w = (*w)[1:]
	return s
}

// skip takes the next word if it is this one, and reports whether it was.
func (w *words) skip(s string) bool {
	if len(*w) == 0 || (*w)[0] != s {
		return false
	}
	*w = (*w)[1:]
	return true
}

func (w *words) want(s string) {
	if !w.skip(s) {
		giveUp()
	}
}

// number reads digits; their count is bounded so that nothing runs over.
func number(s string) int {
	if s == "" || len(s) > mostDigits {
		giveUp()
	}
	n := 0
	for _, d := range []byte(s) {
		if d < '0' || d > '9' {
			giveUp()
		}
		n = 10*n + int(d-'0')
	}
	return n
}
