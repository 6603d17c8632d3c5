package date

import "afterword/api"

const (
	thursday  = 3
	mostWeeks = 53 // no year has more Thursdays
)

// Week returns the week of a day.
func Week(day int) (api.DateWeek, api.Errno) {
	if !isDay(day) {
		return api.DateWeek{}, api.ErrArg
	}
	return weekOf(day), api.OK
}

// OfWeek returns the day that has a week.
func OfWeek(w api.DateWeek) (int, api.Errno) {
	if w.Week < 0 || w.Weekday < 0 || w.Weekday >= daysOfWeek {
		return 0, api.ErrArg
	}
	if !isYear(w.Year) || w.Week > mostWeeks {
		return 0, api.ErrNone
	}
	day := firstThursday(w.Year) + daysOfWeek*(w.Week-1) + w.Weekday - thursday
	if !isDay(day) || weekOf(day) != w {
		return 0, api.ErrNone
	}
	return day, api.OK
}

// weekOf counts Thursdays: a week belongs to the year of its own.
func weekOf(day int) api.DateWeek {
	weekday := weekdayOf(day)
	middle := day - weekday + thursday
	year := dateOf(middle).Year
	week := (middle-firstThursday(year))/daysOfWeek + 1
	return api.DateWeek{Year: year, Week: week, Weekday: weekday}
}

func firstThursday(year int) int {
	start := yearStart(year)
	return start + modulo(thursday-weekdayOf(start), daysOfWeek)
}
