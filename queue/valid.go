package queue

import (
	"math"
	"slices"

	"aguador/api"
)

func span(lo, hi int) api.Span { return api.Span{Lo: lo, Hi: hi} }

// within reports whether all of the numbers are numbers of the span.
func within(x api.Span, numbers ...int) bool {
	for _, n := range numbers {
		if n < x.Lo || n > x.Hi {
			return false
		}
	}
	return true
}

// isSpan reports whether x is a span of numbers of another one.
func isSpan(x, of api.Span) bool { return x.Lo <= x.Hi && within(of, x.Lo, x.Hi) }

// areComers reports whether all of the numbers are Ids of comers.
func areComers(d api.Dawn, ids ...int) bool {
	for _, id := range ids {
		if !slices.ContainsFunc(d.Comers, func(c api.Comer) bool { return c.Id == id }) {
			return false
		}
	}
	return true
}

func validFrame(d api.Dawn) bool {
	return within(span(0, api.MaxMinute), d.Open) &&
		isSpan(d.Fill, span(1, api.MaxFill)) &&
		len(d.Ranks) <= api.MaxGuilds &&
		within(span(1, api.MaxGuilds), d.Ranks...)
}

func validComers(d api.Dawn) bool {
	if len(d.Comers) > api.MaxComers {
		return false
	}
	before := 0
	for _, c := range d.Comers {
		if c.Id <= before || c.Id > api.MaxId ||
			!within(span(1, len(d.Ranks)), c.Guild) ||
			!within(span(0, api.MaxMinute), c.Come) ||
			!within(span(1, api.MaxFilled), c.Skins) {
			return false
		}
		before = c.Id
	}
	return true
}

func validNotes(d api.Dawn) bool {
	if len(d.Notes) > api.MaxBegun {
		return false
	}
	before := 0
	for _, x := range d.Notes {
		if x.Number <= before || x.Number > api.MaxId ||
			!areComers(d, x.Comer) ||
			!isSpan(x.At, span(0, math.MaxInt)) {
			return false
		}
		before = x.Number
	}
	return true
}

func valid(d api.Dawn) bool { return validFrame(d) && validComers(d) && validNotes(d) }

// areNotes reports whether the numbers are those of notes, in increasing order.
func areNotes(d api.Dawn, numbers []int) bool {
	before := 0
	for _, n := range numbers {
		isNumber := func(x api.Begun) bool { return x.Number == n }
		if n <= before || !slices.ContainsFunc(d.Notes, isNumber) {
			return false
		}
		before = n
	}
	return true
}

// areAll reports whether the list has each comer's Id just once.
func areAll(d api.Dawn, order []int) bool {
	left := map[int]bool{}
	for _, c := range d.Comers {
		left[c.Id] = true
	}
	for _, id := range order {
		if !left[id] {
			return false
		}
		delete(left, id)
	}
	return len(left) == 0
}

// canFill reports whether there is one number for each comer, of minutes that it can fill for.
func canFill(f fountain, minutes []int) bool {
	if len(minutes) != len(f.Comers) {
		return false
	}
	for i := range len(minutes) {
		if !within(f.takes(f.Comers[i]), minutes[i]) {
			return false
		}
	}
	return true
}
