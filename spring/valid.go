package spring

import "aguador/api"

func span(lo, hi int) api.Span { return api.Span{Lo: lo, Hi: hi} }

// within reports whether all of the numbers are numbers of the span.
func within(x api.Span, numbers ...int) bool {
	for _, n := range numbers {
		if n < x.Lo || n > x.Hi {
			return false
		}
	}
	return true
}

// isSpan reports whether x is a span of numbers of another one.
func isSpan(x, of api.Span) bool { return x.Lo <= x.Hi && within(of, x.Lo, x.Hi) }

func isWeek(s api.Spring, week int) bool { return within(span(0, s.Weeks-1), week) }

func validFrame(s api.Spring) bool {
	return within(span(1, api.MaxWeeks), s.Weeks) &&
		within(span(0, api.MaxGive), s.Most, s.Fall) &&
		isSpan(s.Song, span(1, api.MaxSong)) &&
		isSpan(s.Winter, span(0, api.MaxRain))
}

func validLine(s api.Spring, x api.Line) bool {
	return isSpan(x.Rain, span(0, api.MaxRain)) &&
		isWeek(s, x.Week) &&
		isSpan(x.Gives, span(0, api.MaxGive))
}

func validBook(s api.Spring) bool {
	if len(s.Book) > api.MaxLines {
		return false
	}
	for _, x := range s.Book {
		if !validLine(s, x) {
			return false
		}
	}
	return true
}

func validReading(s api.Spring, x api.Reading) bool {
	return within(span(1, api.MaxId), x.Number) &&
		isWeek(s, x.Week) &&
		within(span(1, api.MaxBucket), x.Bucket) &&
		isSpan(x.Songs, span(0, api.MaxSongs)) &&
		x.Songs.Hi >= 1
}

func validReadings(s api.Spring) bool {
	if len(s.Readings) > api.MaxReadings {
		return false
	}
	before := 0
	for _, x := range s.Readings {
		if x.Number <= before || !validReading(s, x) {
			return false
		}
		before = x.Number
	}
	return true
}

func valid(s api.Spring) bool { return validFrame(s) && validBook(s) && validReadings(s) }
