package date

import (
	"iter"
	"slices"
	"strconv"

	"afterword/api"
)

const mostNth = 5 // no month has a weekday more often

// kind is what the rules of a kind do.
type kind struct {
	formed func(r api.DateRule) bool                        // whether On and Nth are as the kind asks for
	days   func(r api.DateRule, from, to int) iter.Seq[int] // the days from Start, or from, on that are less than to
	head   func(r api.DateRule) []string                    // the words ahead of every
	unit   string                                           // what Every counts
}

// kinds holds what each kind of rules does.
func kinds() map[api.DateKind]kind {
	return map[api.DateKind]kind{
		api.DateDays: {
			formed: func(r api.DateRule) bool { return r.On == 0 && r.Nth == 0 },
			days:   stepDays,
			head:   func(r api.DateRule) []string { return nil },
			unit:   "days",
		},
		api.DateMonth: {
			formed: func(r api.DateRule) bool { return isCount(r.On, longestMonth) && r.Nth == 0 },
			days: func(r api.DateRule, from, to int) iter.Seq[int] {
				return stepMonths(r, from, to, dayInMonth)
			},
			head: func(r api.DateRule) []string { return append(countWords(r.On), "of") },
			unit: "months",
		},
		api.DateNth: {
			formed: func(r api.DateRule) bool {
				return 0 <= r.On && r.On < daysOfWeek && isCount(r.Nth, mostNth)
			},
			days: func(r api.DateRule, from, to int) iter.Seq[int] {
				return stepMonths(r, from, to, weekdayInMonth)
			},
			head: func(r api.DateRule) []string { return append(countWords(r.Nth), weekdays[r.On], "of") },
			unit: "months",
		},
	}
}

// In reports whether a day is one of a calendar.
func In(cal api.DateCal, day int) (bool, api.Errno) {
	if !isCal(cal) || !isDay(day) {
		return false, api.ErrArg
	}
	return marked(cal, day, day+1)[0], api.OK
}

// Next returns the first day of a calendar among a day and those behind it.
func Next(cal api.DateCal, day int) (int, api.Errno) {
	if !isCal(cal) || !isDay(day) {
		return 0, api.ErrArg
	}
	i := slices.Index(marked(cal, day, min(day+api.DateAhead, endOfDays())), true)
	if i < 0 {
		return 0, api.ErrNone
	}
	return day + i, api.OK
}

// List returns all days of a calendar in a span.
func List(cal api.DateCal, span api.DateSpan) ([]int, api.Errno) {
	if !isCal(cal) || !isSpan(span) {
		return nil, api.ErrArg
	}
	if span.To-span.From > api.DateAhead {
		return nil, api.ErrLong
	}
	from := max(span.From, firstDay())
	to := min(span.To, endOfDays())
	var out []int
	for i, is := range marked(cal, from, to) {
		if is {
			out = append(out, from+i)
		}
	}
	return out, api.OK
}

// marked tells of each number from from on that is less than to, all of them days, whether it is one of a calendar.
func marked(cal api.DateCal, from, to int) []bool {
	out := make([]bool, max(0, to-from))
	mark := func(rules []api.DateRule, is bool) {
		for _, r := range rules {
			for day := range kinds()[r.Kind].days(r, max(from, r.Start), to) {
				out[day-from] = is
			}
		}
	}
	mark(cal.Rules, true)
	mark(cal.Not, false)
	return out
}

// stepDays yields each day that is a multiple of Every days behind Start.
func stepDays(r api.DateRule, from, to int) iter.Seq[int] {
	return func(yield func(int) bool) {
		for day := firstStep(r.Start, r.Every, from); day < to; day += r.Every {
			if !yield(day) {
				return
			}
		}
	}
}

// stepMonths yields the day that pick finds in each month of a rule; pick is told the first and the last day of the month, and what is outside of them is none.
func stepMonths(r api.DateRule, from, to int, pick func(r api.DateRule, first, last int) int) iter.Seq[int] {
	return func(yield func(int) bool) {
		if from >= to { // then from may be no day
			return
		}
		begin, end := monthOf(dateOf(r.Start)), monthOf(dateOf(to-1))
		for m := firstStep(begin, r.Every, monthOf(dateOf(from))); m <= end; m += r.Every {
			first, last := dayOf(dateIn(m, 1)), dayOf(dateIn(m, longestMonth))
			day := pick(r, first, last)
			if day < max(first, from) || day > min(last, to-1) {
				continue
			}
			if !yield(day) {
				return
			}
		}
	}
}

// firstStep is the first number from from on that is a multiple of step behind start; from is not less than start.
func firstStep(start, step, from int) int {
	return from + modulo(start-from, step)
}

func dayInMonth(r api.DateRule, first, last int) int {
	if r.On > 0 {
		return first + r.On - 1
	}
	return last + r.On + 1
}

func weekdayInMonth(r api.DateRule, first, last int) int {
	if r.Nth > 0 {
		return first + modulo(r.On-weekdayOf(first), daysOfWeek) + daysOfWeek*(r.Nth-1)
	}
	return last - modulo(weekdayOf(last)-r.On, daysOfWeek) + daysOfWeek*(r.Nth+1)
}

// countWords are a count from the front, or, below 0, from the end.
func countWords(n int) []string {
	if n < 0 {
		return []string{"the", strconv.Itoa(-n), "last"}
	}
	return []string{"the", strconv.Itoa(n)}
}

// isCount reports whether a number is from 1 to most, or from -most to -1.
func isCount(n, most int) bool { return n != 0 && -most <= n && n <= most }

func isRule(r api.DateRule) bool {
	k, ok := kinds()[r.Kind]
	return ok && isDay(r.Start) && 1 <= r.Every && r.Every <= api.DateEvery && k.formed(r)
}

func isCal(cal api.DateCal) bool { return areRules(cal.Rules) && areRules(cal.Not) }

func areRules(l []api.DateRule) bool {
	if len(l) > api.DateRules {
		return false
	}
	for _, r := range l {
		if !isRule(r) {
			return false
		}
	}
	return true
}
