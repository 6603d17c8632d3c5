package date_test

import (
	"math"
	"math/rand"
	"slices"
	"testing"

	"afterword/api"
	"afterword/date"
)

func rule(k api.DateKind, start, every, on, nth int) api.DateRule {
	return api.DateRule{Kind: k, Start: start, Every: every, On: on, Nth: nth}
}

func cal(l ...api.DateRule) api.DateCal { return api.DateCal{Rules: l} }

// isDay reports whether a day is one of a rule, by the definition; c is its date, start that of Start.
func isDay(r api.DateRule, n int, c, start api.DateCivil) bool {
	if n < r.Start {
		return false
	}
	if r.Kind == api.DateDays {
		return (n-r.Start)%r.Every == 0
	}
	if (c.Year*12+c.Month-start.Year*12-start.Month)%r.Every != 0 {
		return false
	}
	left := lengthOf(c.Year, c.Month) - c.Day // days of the month behind this one
	if r.Kind == api.DateMonth {
		return c.Day == r.On || left == -r.On-1
	}
	weekday := ((n+5)%7 + 7) % 7
	return weekday == r.On && ((c.Day-1)/7 == r.Nth-1 || left/7 == -r.Nth-1)
}

// isOne reports whether a day is one of a calendar, by the definition.
func isOne(cal api.DateCal, n int) bool {
	c, e := date.Civil(n)
	if e != api.OK {
		return false
	}
	any := func(l []api.DateRule) bool {
		return slices.ContainsFunc(l, func(r api.DateRule) bool {
			start, _ := date.Civil(r.Start)
			return isDay(r, n, c, start)
		})
	}
	return any(cal.Rules) && !any(cal.Not)
}

// someRule is any rule that starts from a day on, within some days.
func someRule(r *rand.Rand, from, days int) api.DateRule {
	sign := 1 - 2*r.Intn(2)
	out := rule(api.DateKind(1+r.Intn(3)), min(max(low, from+r.Intn(days)), high), 1+r.Intn(20), 0, 0)
	switch {
	case r.Intn(8) == 0:
		out.Every = api.DateEvery - r.Intn(2)
	case r.Intn(3) == 0:
		out.Every = 1
	}
	switch out.Kind {
	case api.DateMonth:
		out.On = sign * (1 + r.Intn(31))
	case api.DateNth:
		out.On, out.Nth = r.Intn(7), sign*(1+r.Intn(5))
	}
	return out
}

// P1.7: In, Next and List of calendars of any rules, day by day.
func TestCalendars(t *testing.T) {
	r := rand.New(rand.NewSource(4))
	for i := range 300 {
		from := []int{low, -731000, -400, 9000, high - 900}[i%5]
		var c api.DateCal
		for range r.Intn(api.DateRules + 1) {
			c.Rules = append(c.Rules, someRule(r, from-500, 1000))
		}
		for range r.Intn(3) {
			c.Not = append(c.Not, someRule(r, from-500, 1000))
		}
		s := span(from-100, from+1100)
		var want []int
		for n := s.From; n < s.To; n++ {
			is := isOne(c, n)
			if is {
				want = append(want, n)
			}
			got, e := date.In(c, n)
			if n < low || n > high {
				if got || e != api.ErrArg {
					t.Fatal(c, n, got, e)
				}
			} else if got != is || e != api.OK {
				t.Fatal(c, n, got, e)
			}
		}
		got, e := date.List(c, s)
		if e != api.OK || !slices.Equal(got, want) {
			t.Fatal(c, s, got, want, e)
		}
		checkNext(t, c, max(s.From, low))
	}
}

// checkNext holds Next against the first day by the definition.
func checkNext(t *testing.T, c api.DateCal, from int) {
	t.Helper()
	want, e := 0, api.ErrNone
	for n := from; n < from+api.DateAhead; n++ {
		if isOne(c, n) {
			want, e = n, api.OK
			break
		}
	}
	if got, f := date.Next(c, from); got != want || f != e {
		t.Fatal(c, from, got, f, want, e)
	}
}

// P1.7: rules from long ago, with months that have no such day, and the chapter's example.
func TestRuleExamples(t *testing.T) {
	first := day(2026, 1, 1)
	tuesday := cal(rule(api.DateNth, first, 1, 1, 2))
	if n, e := date.Next(tuesday, day(2026, 11, 11)); n != day(2026, 12, 8) || e != api.OK {
		t.Error(n, e)
	}
	leap := cal(rule(api.DateMonth, day(-9999, 2, 1), 12, 29, 0))
	for i, x := range []struct{ from, want int }{{day(2026, 11, 18), day(2028, 2, 29)}, {day(2096, 3, 1), day(2104, 2, 29)}, {day(1896, 2, 29), day(1896, 2, 29)}, {day(-5, 1, 1), day(-4, 2, 29)}} {
		if n, e := date.Next(leap, x.from); n != x.want || e != api.OK {
			t.Error(i, n, e)
		}
	}
	for i, x := range []struct {
		r    api.DateRule
		want []int
	}{
		{rule(api.DateMonth, first, 1, 31, 0), []int{day(2026, 1, 31), day(2026, 3, 31), day(2026, 5, 31), day(2026, 7, 31)}},
		{rule(api.DateMonth, first, 1, -31, 0), []int{day(2026, 1, 1), day(2026, 3, 1), day(2026, 5, 1), day(2026, 7, 1)}},
		{rule(api.DateMonth, first+20, 1, 15, 0), []int{day(2026, 2, 15), day(2026, 3, 15), day(2026, 4, 15), day(2026, 5, 15), day(2026, 6, 15), day(2026, 7, 15)}},
		{rule(api.DateMonth, first, 2, -1, 0), []int{day(2026, 1, 31), day(2026, 3, 31), day(2026, 5, 31), day(2026, 7, 31)}},
		{rule(api.DateNth, first, 1, 4, 5), []int{day(2026, 1, 30), day(2026, 5, 29), day(2026, 7, 31)}},
		{rule(api.DateNth, first, 1, 4, -5), []int{day(2026, 1, 2), day(2026, 5, 1), day(2026, 7, 3)}},
		{rule(api.DateNth, first, 3, 0, -1), []int{day(2026, 1, 26), day(2026, 4, 27), day(2026, 7, 27)}},
		{rule(api.DateDays, first, 100, 0, 0), []int{first, first + 100, first + 200}},
	} {
		if l, e := date.List(cal(x.r), span(first, day(2026, 8, 1))); !slices.Equal(l, x.want) || e != api.OK {
			t.Error(i, l, e)
		}
	}
}

// P1.7: the days that are looked at, and the edges of all days.
func TestAhead(t *testing.T) {
	for i, x := range []struct {
		cal       api.DateCal
		day, want int
		e         api.Errno
	}{
		{cal(rule(api.DateDays, 3999, 1, 0, 0)), 0, 3999, api.OK}, {cal(rule(api.DateDays, 4000, 1, 0, 0)), 0, 0, api.ErrNone}, {cal(rule(api.DateDays, 4000, 1, 0, 0)), 1, 4000, api.OK},
		{cal(rule(api.DateDays, high, 1, 0, 0)), high, high, api.OK}, {cal(rule(api.DateDays, high, 1, 0, 0)), high - 10, high, api.OK}, {cal(rule(api.DateDays, high-1, 2, 0, 0)), high, 0, api.ErrNone},
		{cal(rule(api.DateMonth, high, 1, -1, 0)), high, high, api.OK}, {cal(rule(api.DateMonth, high, 1, -2, 0)), high, 0, api.ErrNone}, {cal(rule(api.DateMonth, low, 1, 1, 0)), low, low, api.OK},
		{cal(rule(api.DateNth, low, 1, 4, -1)), high, high, api.OK}, {cal(), 0, 0, api.ErrNone}, {api.DateCal{Not: []api.DateRule{rule(api.DateDays, 0, 1, 0, 0)}}, 0, 0, api.ErrNone},
	} {
		if n, e := date.Next(x.cal, x.day); n != x.want || e != x.e {
			t.Error(i, n, e)
		}
	}
	all := cal(rule(api.DateDays, low, 1, 0, 0), rule(api.DateMonth, low, 1, 1, 0))
	for i, x := range []struct{ s, days api.DateSpan }{
		{span(low-10, low+2), span(low, low+2)}, {span(high, high+10), span(high, high+1)}, {span(0, 4000), span(0, 4000)}, {span(-api.DateMost, -api.DateMost+4000), span(0, 0)}, {span(api.DateMost-4000, api.DateMost), span(0, 0)}, {span(low-1, low), span(0, 0)}, {span(high+1, high+2), span(0, 0)},
	} {
		var want []int
		for n := x.days.From; n < x.days.To; n++ {
			want = append(want, n)
		}
		if l, e := date.List(all, x.s); !slices.Equal(l, want) || e != api.OK {
			t.Error(i, len(l), e)
		}
	}
}

// badRules are none, each for another reason.
func badRules() []api.DateRule {
	out := []api.DateRule{
		{}, rule(0, 0, 1, 0, 0), rule(4, 0, 1, 1, 1), rule(-1, 0, 1, 0, 0), rule(math.MaxInt, 0, 1, 0, 0), rule(math.MinInt, 0, 1, 0, 0),
		rule(api.DateDays, 0, 1, 1, 0), rule(api.DateDays, 0, 1, -1, 0), rule(api.DateDays, 0, 1, 0, 1), rule(api.DateDays, 0, 1, 0, -1),
		rule(api.DateMonth, 0, 1, 0, 0), rule(api.DateMonth, 0, 1, 32, 0), rule(api.DateMonth, 0, 1, -32, 0), rule(api.DateMonth, 0, 1, 1, 1), rule(api.DateMonth, 0, 1, math.MinInt, 0),
		rule(api.DateNth, 0, 1, 7, 1), rule(api.DateNth, 0, 1, -1, 1), rule(api.DateNth, 0, 1, 1, 0), rule(api.DateNth, 0, 1, 1, 6), rule(api.DateNth, 0, 1, 1, -6), rule(api.DateNth, 0, 1, math.MaxInt, math.MinInt),
	}
	for _, good := range []api.DateRule{rule(api.DateDays, 0, 1, 0, 0), rule(api.DateMonth, 0, 1, 1, 0), rule(api.DateNth, 0, 1, 1, 1)} {
		for _, every := range []int{0, -1, api.DateEvery + 1, math.MaxInt, math.MinInt} {
			bad := good
			bad.Every = every
			out = append(out, bad)
		}
		for _, start := range badDays {
			bad := good
			bad.Start = start
			out = append(out, bad)
		}
	}
	return out
}

// P1.7: what is no calendar, no day, no span; ErrArg comes ahead of ErrLong and ErrNone.
func TestCalendarErrors(t *testing.T) {
	good := rule(api.DateDays, 0, 1, 0, 0)
	seven := slices.Repeat([]api.DateRule{good}, api.DateRules+1)
	none := []api.DateCal{{Rules: seven}, {Not: seven}}
	for _, r := range badRules() {
		none = append(none, api.DateCal{Rules: []api.DateRule{good, r}}, api.DateCal{Not: []api.DateRule{r}})
	}
	for i, c := range none {
		is, e := date.In(c, 0)
		n, f := date.Next(c, 0)
		l, g := date.List(c, span(0, 9))
		long, h := date.List(c, span(0, 9000))
		if is || n != 0 || len(l) > 0 || len(long) > 0 || e != api.ErrArg || f != api.ErrArg || g != api.ErrArg || h != api.ErrArg {
			t.Error(i, is, n, l, long, e, f, g, h)
		}
	}
	for _, n := range badDays {
		is, e := date.In(cal(good), n)
		next, f := date.Next(cal(good), n)
		if is || next != 0 || e != api.ErrArg || f != api.ErrArg {
			t.Error(n, is, next, e, f)
		}
	}
	for i, x := range []struct {
		s api.DateSpan
		e api.Errno
	}{
		{span(0, 4001), api.ErrLong}, {span(-api.DateMost, api.DateMost), api.ErrLong}, {span(high+1, high+4002), api.ErrLong}, {span(0, 0), api.ErrArg}, {span(9, 0), api.ErrArg}, {span(0, api.DateMost+1), api.ErrArg}, {span(math.MinInt, math.MaxInt), api.ErrArg}, {span(math.MaxInt, math.MinInt), api.ErrArg},
	} {
		if l, e := date.List(cal(good), x.s); len(l) > 0 || e != x.e {
			t.Error(i, l, e)
		}
	}
	six := api.DateCal{Rules: seven[:6], Not: seven[:6]}
	if is, e := date.In(six, 0); is || e != api.OK {
		t.Error(is, e)
	}
}

// P1.7: calendars stay as they are, and lists are new.
func TestCalendarMemory(t *testing.T) {
	r, not := []api.DateRule{rule(api.DateDays, 0, 2, 0, 0)}, []api.DateRule{rule(api.DateDays, 0, 3, 0, 0)}
	c := api.DateCal{Rules: slices.Clone(r), Not: slices.Clone(not)}
	first, _ := date.List(c, span(0, 12))
	first[0] = -1
	second, _ := date.List(c, span(0, 12))
	date.In(c, 4)
	date.Next(c, 4)
	if !slices.Equal(second, []int{2, 4, 8, 10}) || !slices.Equal(c.Rules, r) || !slices.Equal(c.Not, not) {
		t.Error(second, c)
	}
}
