// Package date is layer 1: see shared/doc/01-date.md.
package date

import "afterword/api"

// ahead holds, for each month of a year that is no leap year, how many days are ahead of it; the last one is the whole year.
var ahead = [...]int{0, 31, 59, 90, 120, 151, 181, 212, 243, 273, 304, 334, 365}

const (
	monthsOfYear = 12
	daysOfWeek   = 7
	longestMonth = 31
	firstYear    = 2000 // the year whose first day is the day 0
	firstWeekday = 5    // the weekday of the day 0
)

// Day returns the day of a date.
func Day(c api.DateCivil) (int, api.Errno) {
	if !isDate(c) {
		return 0, api.ErrArg
	}
	return dayOf(c), api.OK
}

// Civil returns the date of a day.
func Civil(day int) (api.DateCivil, api.Errno) {
	if !isDay(day) {
		return api.DateCivil{}, api.ErrArg
	}
	return dateOf(day), api.OK
}

// Weekday returns the weekday of a day.
func Weekday(day int) (int, api.Errno) {
	if !isDay(day) {
		return 0, api.ErrArg
	}
	return weekdayOf(day), api.OK
}

// isYear bounds years before anything is computed of them, so that nothing runs over.
func isYear(year int) bool { return -api.DateYears <= year && year <= api.DateYears }

func isDay(day int) bool { return firstDay() <= day && day < endOfDays() }

// isDate holds a date against the date of its day: a day behind the end of its month would be one of the next month.
func isDate(c api.DateCivil) bool {
	return isYear(c.Year) &&
		1 <= c.Month && c.Month <= monthsOfYear &&
		1 <= c.Day && c.Day <= longestMonth &&
		dateOf(dayOf(c)) == c
}

func firstDay() int { return yearStart(-api.DateYears) }

// endOfDays is the first number behind all days.
func endOfDays() int { return yearStart(api.DateYears + 1) }

func isLeap(year int) bool { return year%4 == 0 && year%100 != 0 || year%400 == 0 }

// leapsAhead counts leap years up to the one before a year. What it counts from does not matter: only differences are used.
func leapsAhead(year int) int {
	const shift = 50 * 400 // whole cycles, so that no quotient is of a number below 0
	last := year + shift - 1
	return last/4 - last/100 + last/400
}

// yearStart is the day of the first date of a year.
func yearStart(year int) int {
	return 365*(year-firstYear) + leapsAhead(year) - leapsAhead(firstYear)
}

// daysAhead is how many days of a year are ahead of a month; the month behind the last one is the next year.
func daysAhead(year, month int) int {
	days := ahead[month-1]
	if month > 2 && isLeap(year) {
		days++
	}
	return days
}

func monthLength(year, month int) int {
	return daysAhead(year, month+1) - daysAhead(year, month)
}

func dayOf(c api.DateCivil) int {
	return yearStart(c.Year) + daysAhead(c.Year, c.Month) + c.Day - 1
}

// dateOf guesses the year by the length of a whole cycle, which is wrong by a year at most, and goes on from there.
func dateOf(day int) api.DateCivil {
	const years, days = 400, 146097
	year := firstYear + day*years/days
	for day < yearStart(year) {
		year--
	}
	for day >= yearStart(year+1) {
		year++
	}
	day -= yearStart(year)
	month := monthsOfYear
	for day < daysAhead(year, month) {
		month--
	}
	return api.DateCivil{Year: year, Month: month, Day: day - daysAhead(year, month) + 1}
}

func weekdayOf(day int) int { return modulo(day+firstWeekday, daysOfWeek) }

// modulo is from 0 to n - 1, also where a is below 0.
func modulo(a, n int) int { return (a%n + n) % n }
