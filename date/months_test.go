package date_test

import (
	"math"
	"testing"

	"afterword/api"
	"afterword/date"
)

// later is a date and some months, by the definition, month by month; false if its year is none.
func later(c api.DateCivil, months int) (api.DateCivil, bool) {
	y, m := c.Year, c.Month
	for ; months > 0; months-- {
		if m++; m > 12 {
			y, m = y+1, 1
		}
	}
	for ; months < 0; months++ {
		if m--; m < 1 {
			y, m = y-1, 12
		}
	}
	if y < -9999 || y > 9999 {
		return api.DateCivil{}, false
	}
	return civil(y, m, min(c.Day, lengthOf(y, m))), true
}

// someDates lie at all edges of months, of leap years and of all dates.
func someDates() []api.DateCivil {
	var out []api.DateCivil
	for _, y := range []int{-9999, -9998, -5, -4, -1, 0, 1, 1999, 2000, 2023, 2024, 9998, 9999} {
		for m := 1; m <= 12; m++ {
			for _, d := range []int{1, 15, 28, lengthOf(y, m) - 1, lengthOf(y, m)} {
				out = append(out, civil(y, m, d))
			}
		}
	}
	return out
}

// P1.3: Add by its definition, and where the year of the result is none.
func TestAdd(t *testing.T) {
	for _, c := range someDates() {
		for n := -40; n <= 40; n++ {
			want, is := later(c, n)
			got, e := date.Add(c, n)
			if got != want || (e == api.OK) != is || e != api.OK && e != api.ErrLong {
				t.Fatal(c, n, got, want, e)
			}
		}
	}
}

// P1.3: the chapter's examples, and any number of months.
func TestAddExamples(t *testing.T) {
	for i, x := range []struct {
		c    api.DateCivil
		n    int
		want api.DateCivil
		e    api.Errno
	}{
		{civil(2024, 1, 31), 1, civil(2024, 2, 29), api.OK}, {civil(2024, 1, 31), 13, civil(2025, 2, 28), api.OK}, {civil(2024, 1, 31), -2, civil(2023, 11, 30), api.OK},
		{civil(-9999, 1, 31), 239987, civil(9999, 12, 31), api.OK}, {civil(9999, 12, 31), -239987, civil(-9999, 1, 31), api.OK},
		{civil(-9999, 1, 31), 239988, api.DateCivil{}, api.ErrLong}, {civil(9999, 12, 31), -239988, api.DateCivil{}, api.ErrLong},
		{civil(2000, 1, 1), math.MaxInt, api.DateCivil{}, api.ErrLong}, {civil(2000, 1, 1), math.MinInt, api.DateCivil{}, api.ErrLong},
		{civil(-9999, 1, 1), math.MinInt, api.DateCivil{}, api.ErrLong}, {civil(9999, 12, 31), math.MaxInt, api.DateCivil{}, api.ErrLong},
	} {
		if got, e := date.Add(x.c, x.n); got != x.want || e != x.e {
			t.Error(i, got, e)
		}
	}
	for _, c := range badDates() {
		for _, n := range []int{0, 1, math.MaxInt} { // ErrArg comes ahead of ErrLong
			if got, e := date.Add(c, n); got != (api.DateCivil{}) || e != api.ErrArg {
				t.Error(c, n, got, e)
			}
		}
	}
}

// P1.3: up to the day 28, months can be added in parts.
func TestAddInParts(t *testing.T) {
	for d := 1; d <= 28; d++ {
		c := civil(2023, 12, d)
		for a := -15; a <= 15; a++ {
			for b := -15; b <= 15; b++ {
				first, _ := date.Add(c, a)
				parts, e := date.Add(first, b)
				whole, f := date.Add(c, a+b)
				if parts != whole || e != api.OK || f != api.OK {
					t.Fatal(c, a, b, parts, whole, e, f)
				}
			}
		}
	}
}

// P1.3: Since by its definition.
func TestSince(t *testing.T) {
	for _, a := range []api.DateCivil{civil(2023, 12, 31), civil(2024, 1, 28), civil(2024, 1, 29), civil(2024, 1, 30), civil(2024, 1, 31), civil(2024, 2, 29), civil(2024, 3, 15), civil(-1, 11, 30)} {
		from, b := day(a.Year, a.Month, a.Day), a
		for n := range 1500 {
			months := 0
			for {
				c, _ := later(a, months+1)
				if day(c.Year, c.Month, c.Day) > from+n {
					break
				}
				months++
			}
			c, _ := later(a, months)
			m, d, e := date.Since(a, b)
			if m != months || d != from+n-day(c.Year, c.Month, c.Day) || e != api.OK {
				t.Fatal(a, b, m, d, e)
			}
			b = following(b)
		}
	}
}

// P1.3: the chapter's examples, whole time, and errors.
func TestSinceExamples(t *testing.T) {
	for i, x := range []struct {
		a, b         api.DateCivil
		months, days int
		e            api.Errno
	}{
		{civil(2024, 1, 31), civil(2024, 3, 1), 1, 1, api.OK}, {civil(2024, 1, 31), civil(2024, 2, 28), 0, 28, api.OK},
		{civil(-9999, 1, 1), civil(9999, 12, 31), 239987, 30, api.OK}, {civil(9999, 12, 31), civil(9999, 12, 31), 0, 0, api.OK}, {civil(-9999, 1, 31), civil(9999, 12, 30), 239986, 30, api.OK},
		{civil(2024, 1, 2), civil(2024, 1, 1), 0, 0, api.ErrRule}, {civil(9999, 12, 31), civil(-9999, 1, 1), 0, 0, api.ErrRule}, {civil(2025, 1, 1), civil(2024, 12, 31), 0, 0, api.ErrRule},
	} {
		if m, d, e := date.Since(x.a, x.b); m != x.months || d != x.days || e != x.e {
			t.Error(i, m, d, e)
		}
	}
	for _, c := range badDates() { // ErrArg comes ahead of ErrRule
		for _, o := range []api.DateCivil{civil(-9999, 1, 1), civil(9999, 12, 31)} {
			m, d, e := date.Since(c, o)
			n, f, g := date.Since(o, c)
			if m != 0 || d != 0 || n != 0 || f != 0 || e != api.ErrArg || g != api.ErrArg {
				t.Error(c, m, d, n, f, e, g)
			}
		}
	}
}
