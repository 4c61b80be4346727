package town

import (
	"slices"

	"aguador/api"
	"aguador/spring"
)

func span(lo, hi int) api.Span { return api.Span{Lo: lo, Hi: hi} }

// within reports whether all of the numbers are numbers of the span.
func within(x api.Span, numbers ...int) bool {
	for _, n := range numbers {
		if n < x.Lo || n > x.Hi {
			return false
		}
	}
	return true
}

// isSpan reports whether x is a span of numbers of another one.
func isSpan(x, of api.Span) bool { return x.Lo <= x.Hi && within(of, x.Lo, x.Hi) }

// isRising reports whether the numbers are in increasing order, no one twice.
func isRising(numbers []int) bool {
	for i := range len(numbers) - 1 {
		if numbers[i] >= numbers[i+1] {
			return false
		}
	}
	return true
}

// fountAt returns the index of the fountain with an Id, and -1 if there is none.
func fountAt(s api.Supply, id int) int {
	return slices.IndexFunc(s.Founts, func(x api.Fount) bool { return x.Id == id })
}

// streetAt returns the index of the street with an Id, and -1 if there is none.
func streetAt(s api.Supply, id int) int {
	return slices.IndexFunc(s.Streets, func(x api.Street) bool { return x.Id == id })
}

// areFounts reports whether all of the numbers are Ids of fountains.
func areFounts(s api.Supply, ids ...int) bool {
	return !slices.ContainsFunc(ids, func(id int) bool { return fountAt(s, id) < 0 })
}

func validFounts(s api.Supply) bool {
	if !within(span(1, api.MaxFounts), len(s.Founts)) {
		return false
	}
	before := 0
	for _, x := range s.Founts {
		if x.Id <= before || x.Id > api.MaxId || spring.Check(x.Spring) != api.OK {
			return false
		}
		before = x.Id
	}
	return true
}

func validStreets(s api.Supply) bool {
	if len(s.Streets) > api.MaxStreets {
		return false
	}
	before := 0
	for _, x := range s.Streets {
		if x.Id <= before || x.Id > api.MaxId || !isSpan(x.Need, span(0, api.MaxNeed)) ||
			!within(span(0, x.Need.Lo), x.Least) || !isRising(x.Draws) || !areFounts(s, x.Draws...) {
			return false
		}
		before = x.Id
	}
	return true
}

func valid(s api.Supply) bool { return validFounts(s) && validStreets(s) }

// areShares reports whether there is one number for each street.
func areShares(s api.Supply, shares []int) bool {
	return len(shares) == len(s.Streets) && within(span(0, api.MaxNeed), shares...)
}
