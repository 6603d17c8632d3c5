package date_test

import (
	"math"
	"testing"

	"afterword/api"
	"afterword/date"
)

const (
	low  = -4382544 // the day of -9999-01-01
	high = 2921939  // the day of 9999-12-31
)

func civil(y, m, d int) api.DateCivil { return api.DateCivil{Year: y, Month: m, Day: d} }

// day is the day of a date that is known to be one.
func day(y, m, d int) int {
	n, e := date.Day(civil(y, m, d))
	if e != api.OK {
		panic("no date")
	}
	return n
}

// lengthOf is the length of a month, by the definition.
func lengthOf(y, m int) int {
	switch m {
	case 2:
		if y%400 == 0 || y%4 == 0 && y%100 != 0 {
			return 29
		}
		return 28
	case 4, 6, 9, 11:
		return 30
	}
	return 31
}

// following is the date that follows another one, by the definition.
func following(c api.DateCivil) api.DateCivil {
	switch {
	case c.Day < lengthOf(c.Year, c.Month):
		return civil(c.Year, c.Month, c.Day+1)
	case c.Month < 12:
		return civil(c.Year, c.Month+1, 1)
	}
	return civil(c.Year+1, 1, 1)
}

// badDates are none, each for another reason.
func badDates() []api.DateCivil {
	return []api.DateCivil{
		{}, civil(2001, 2, 29), civil(1900, 2, 29), civil(-100, 2, 29), civil(-1, 2, 29), civil(2000, 2, 30), civil(2000, 4, 31), civil(2000, 12, 32),
		civil(2000, 0, 1), civil(2000, -1, 1), civil(2000, 13, 1), civil(2000, 1, 0), civil(2000, 1, -1),
		civil(10000, 1, 1), civil(-10000, 12, 31), civil(9999, 12, 32), civil(-9999, 1, 0),
		civil(math.MaxInt, 1, 1), civil(math.MinInt, 1, 1), civil(2000, math.MaxInt, 1), civil(2000, math.MinInt, 1), civil(2000, 1, math.MaxInt), civil(2000, 1, math.MinInt),
	}
}

var badDays = []int{low - 1, high + 1, math.MinInt, math.MaxInt}

// P1.1: the chapter's examples.
func TestDayExamples(t *testing.T) {
	for _, x := range []struct {
		c   api.DateCivil
		day int
	}{
		{civil(2000, 1, 1), 0}, {civil(1999, 12, 31), -1}, {civil(1970, 1, 1), -10957}, {civil(2000, 3, 1), 60}, {civil(2001, 1, 1), 366}, {civil(0, 1, 1), -730485},
	} {
		if n, e := date.Day(x.c); n != x.day || e != api.OK {
			t.Error(x.c, n, e)
		}
		if c, e := date.Civil(x.day); c != x.c || e != api.OK {
			t.Error(x.day, c, e)
		}
	}
	if w, e := date.Weekday(0); w != 5 || e != api.OK {
		t.Error(w, e)
	}
}

// P1.1: every day that there is, from the first to the last one.
func TestEveryDay(t *testing.T) {
	c, weekday := civil(-9999, 1, 1), 0
	if w, _ := date.Weekday(low); w != weekday {
		t.Fatal(w)
	}
	for n := low; n <= high; n++ {
		gotDay, e := date.Day(c)
		gotDate, f := date.Civil(n)
		gotWeekday, g := date.Weekday(n)
		if gotDay != n || gotDate != c || gotWeekday != weekday || e != api.OK || f != api.OK || g != api.OK {
			t.Fatal(n, c, weekday, gotDay, gotDate, gotWeekday, e, f, g)
		}
		c, weekday = following(c), (weekday+1)%7
	}
	if c != civil(10000, 1, 1) {
		t.Error(c)
	}
}

// P1.1: just the dates are formed.
func TestFormedDates(t *testing.T) {
	for _, y := range []int{-10000, -9999, -400, -100, -4, -1, 0, 1, 4, 100, 1900, 2000, 2024, 2026, 9999, 10000} {
		for m := -1; m <= 14; m++ {
			for d := -1; d <= 33; d++ {
				want := y >= -9999 && y <= 9999 && m >= 1 && m <= 12 && d >= 1 && d <= lengthOf(y, m)
				if _, e := date.Day(civil(y, m, d)); (e == api.OK) != want || e != api.OK && e != api.ErrArg {
					t.Error(y, m, d, e)
				}
			}
		}
	}
}

// P1.1: what is no date and no day.
func TestDayErrors(t *testing.T) {
	for _, c := range badDates() {
		if n, e := date.Day(c); n != 0 || e != api.ErrArg {
			t.Error(c, n, e)
		}
	}
	for _, n := range badDays {
		if c, e := date.Civil(n); c != (api.DateCivil{}) || e != api.ErrArg {
			t.Error(n, c, e)
		}
		if w, e := date.Weekday(n); w != 0 || e != api.ErrArg {
			t.Error(n, w, e)
		}
	}
}

// P1.2: the chapter's examples.
func TestWeekExamples(t *testing.T) {
	for _, x := range []struct {
		day int
		w   api.DateWeek
	}{
		{day(2027, 1, 1), api.DateWeek{Year: 2026, Week: 53, Weekday: 4}},
		{day(2026, 12, 28), api.DateWeek{Year: 2026, Week: 53, Weekday: 0}},
	} {
		if w, e := date.Week(x.day); w != x.w || e != api.OK {
			t.Error(x.day, w, e)
		}
		if n, e := date.OfWeek(x.w); n != x.day || e != api.OK {
			t.Error(x.w, n, e)
		}
	}
}

// P1.2: the weeks of all days, by counting Thursdays.
func TestEveryWeek(t *testing.T) {
	year, week := math.MinInt, 0
	for monday := low; monday <= high; monday += 7 {
		c, e := date.Civil(monday + 3)
		if e != api.OK {
			t.Fatal(monday, e)
		}
		if c.Year != year {
			year, week = c.Year, 0
		}
		week++
		for i := 0; i < 7 && monday+i <= high; i++ {
			want := api.DateWeek{Year: year, Week: week, Weekday: i}
			w, e := date.Week(monday + i)
			n, f := date.OfWeek(want)
			if w != want || n != monday+i || e != api.OK || f != api.OK {
				t.Fatal(monday+i, want, w, n, e, f)
			}
		}
	}
}

// P1.2: what OfWeek returns has this week; all other weeks are none.
func TestNoWeek(t *testing.T) {
	for year := -10001; year <= 10001; year++ {
		last := 52
		if w, e := date.Week(clamped(year)); e == api.OK && w.Year == year {
			last = w.Week
		}
		for _, week := range []int{0, 1, last, last + 1, 54, math.MaxInt} {
			for weekday := range 7 {
				w := api.DateWeek{Year: year, Week: week, Weekday: weekday}
				n, e := date.OfWeek(w)
				is := year >= -9999 && year <= 9999 && week >= 1 && week <= last && (year < 9999 || week < last || weekday <= 4)
				if got, _ := date.Week(n); is && (e != api.OK || got != w) || !is && (e != api.ErrNone || n != 0) {
					t.Fatal(w, n, e, got)
				}
			}
		}
	}
}

// clamped is the 28th of December of a year, which is always one of its last week, or no day.
func clamped(year int) int {
	n, e := date.Day(civil(year, 12, 28))
	if e != api.OK {
		return math.MaxInt
	}
	return n
}

// P1.2: ErrArg comes ahead of ErrNone.
func TestWeekErrors(t *testing.T) {
	for _, n := range badDays {
		if w, e := date.Week(n); w != (api.DateWeek{}) || e != api.ErrArg {
			t.Error(n, w, e)
		}
	}
	for _, x := range []struct {
		w api.DateWeek
		e api.Errno
	}{
		{api.DateWeek{Year: 2026, Week: -1}, api.ErrArg}, {api.DateWeek{Year: 2026, Week: math.MinInt}, api.ErrArg},
		{api.DateWeek{Year: 2026, Week: 1, Weekday: -1}, api.ErrArg}, {api.DateWeek{Year: 2026, Week: 1, Weekday: 7}, api.ErrArg},
		{api.DateWeek{Year: 10000, Week: -1}, api.ErrArg}, {api.DateWeek{Year: math.MaxInt, Week: 99, Weekday: math.MaxInt}, api.ErrArg},
		{api.DateWeek{Year: math.MaxInt, Week: 1}, api.ErrNone}, {api.DateWeek{Year: math.MinInt, Week: math.MaxInt}, api.ErrNone}, {api.DateWeek{}, api.ErrNone},
	} {
		if n, e := date.OfWeek(x.w); n != 0 || e != x.e {
			t.Error(x.w, n, e)
		}
	}
}
