package jar

import (
	"slices"

	"aguador/api"
)

// weekDays is how many days a week has.
const weekDays = 7

func span(lo, hi int) api.Span { return api.Span{Lo: lo, Hi: hi} }

// within reports whether all of the numbers are numbers of the span.
func within(x api.Span, numbers ...int) bool {
	for _, n := range numbers {
		if n < x.Lo || n > x.Hi {
			return false
		}
	}
	return true
}

// isSpan reports whether x is a span of numbers of another one.
func isSpan(x, of api.Span) bool { return x.Lo <= x.Hi && within(of, x.Lo, x.Hi) }

func areDays(j api.Jar, days ...int) bool { return within(span(0, j.Days-1), days...) }

func areWeeks(j api.Jar, weeks ...int) bool { return within(span(0, (j.Days-1)/weekDays), weeks...) }

// isRising reports whether the numbers are in increasing order, no one twice.
func isRising(numbers []int) bool {
	for i := range len(numbers) - 1 {
		if numbers[i] >= numbers[i+1] {
			return false
		}
	}
	return true
}

// firstLater returns the first day behind those of all sights.
func firstLater(j api.Jar) int {
	day := 0
	for _, x := range j.Sights {
		day = max(day, x.Day+1)
	}
	return day
}

func areLater(j api.Jar, days []int) bool {
	return within(span(firstLater(j), j.Days-1), days...) && isRising(days)
}

// areSights reports whether the Ids are those of sights, in increasing order.
func areSights(j api.Jar, ids []int) bool {
	isNone := func(id int) bool {
		return !slices.ContainsFunc(j.Sights, func(x api.Sight) bool { return x.Id == id })
	}
	return isRising(ids) && !slices.ContainsFunc(ids, isNone)
}

func validSights(j api.Jar) bool {
	if len(j.Sights) > api.MaxSights {
		return false
	}
	before := 0
	for _, x := range j.Sights {
		if x.Id <= before || x.Id > api.MaxId || !areDays(j, x.Day) || !isSpan(x.Pints, span(0, j.Full)) {
			return false
		}
		before = x.Id
	}
	return true
}

func validBrings(j api.Jar) bool {
	if len(j.Brings) > api.MaxBrings {
		return false
	}
	before := 0
	for _, x := range j.Brings {
		if x.Day < before || !areDays(j, x.Day) || !within(span(1, api.MaxJar), x.Pints) {
			return false
		}
		before = x.Day
	}
	return true
}

func valid(j api.Jar) bool {
	return within(span(1, api.MaxJar), j.Full) &&
		within(span(1, api.MaxDays), j.Days) &&
		isSpan(j.Start, span(0, j.Full)) &&
		isSpan(j.Use, span(0, api.MaxUse)) &&
		isSpan(j.Week, span(0, weekDays*api.MaxUse)) &&
		within(span(api.KnownNo, api.KnownOpen), int(j.May)) &&
		validSights(j) && validBrings(j)
}
