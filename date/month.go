package date

import "afterword/api"

// Months are numbered through all years, so that adding some of them is adding numbers.
const (
	firstMonth = -api.DateYears * monthsOfYear
	lastMonth  = api.DateYears*monthsOfYear + monthsOfYear - 1
)

// Add returns a date and some months.
func Add(c api.DateCivil, months int) (api.DateCivil, api.Errno) {
	if !isDate(c) {
		return api.DateCivil{}, api.ErrArg
	}
	month := monthOf(c)
	if months < firstMonth-month || months > lastMonth-month {
		return api.DateCivil{}, api.ErrLong
	}
	return dateIn(month+months, c.Day), api.OK
}

// Since returns the months since a up to b, and the days that are left.
func Since(a, b api.DateCivil) (months, days int, e api.Errno) {
	if !isDate(a) || !isDate(b) {
		return 0, 0, api.ErrArg
	}
	from, to := dayOf(a), dayOf(b)
	if to < from {
		return 0, 0, api.ErrRule
	}
	month := monthOf(b)
	if dayOf(dateIn(month, a.Day)) > to {
		month--
	}
	return month - monthOf(a), to - dayOf(dateIn(month, a.Day)), api.OK
}

func monthOf(c api.DateCivil) int { return c.Year*monthsOfYear + c.Month - 1 }

// dateIn is a day of a month, or the last one, if the month has fewer.
func dateIn(month, day int) api.DateCivil {
	ofYear := modulo(month, monthsOfYear)
	year := (month - ofYear) / monthsOfYear
	return api.DateCivil{Year: year, Month: ofYear + 1, Day: min(day, monthLength(year, ofYear+1))}
}
