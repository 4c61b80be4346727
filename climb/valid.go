package climb

import (
	"slices"

	"aguador/api"
)

func span(lo, hi int) api.Span { return api.Span{Lo: lo, Hi: hi} }

// within reports whether all of the numbers are numbers of the span.
func within(x api.Span, numbers ...int) bool {
	for _, n := range numbers {
		if n < x.Lo || n > x.Hi {
			return false
		}
	}
	return true
}

// isSpan reports whether x is a span of numbers of another one.
func isSpan(x, of api.Span) bool { return x.Lo <= x.Hi && within(of, x.Lo, x.Hi) }

// arePlaces reports whether all of the numbers are places of the town.
func arePlaces(t api.Town, places ...int) bool {
	for _, place := range places {
		if !slices.Contains(t.Places, place) {
			return false
		}
	}
	return true
}

func validPlaces(t api.Town) bool {
	if !within(span(1, api.MaxPlaces), len(t.Places)) {
		return false
	}
	before := 0
	for _, place := range t.Places {
		if place <= before || place > api.MaxId {
			return false
		}
		before = place
	}
	return true
}

func validLinks(t api.Town) bool {
	if len(t.Links) > api.MaxLinks {
		return false
	}
	before := 0
	for _, x := range t.Links {
		if x.Id <= before || x.Id > api.MaxId ||
			!arePlaces(t, x.From, x.To) || x.From == x.To ||
			!within(span(0, api.MaxSteps), x.Steps) ||
			!within(span(1, api.MaxPaces), x.Paces) {
			return false
		}
		before = x.Id
	}
	return true
}

func valid(t api.Town) bool { return validPlaces(t) && validLinks(t) }

func validSkin(s api.Skin) bool {
	drip := span(0, api.MaxDrip)
	return within(span(0, api.MaxSkin), s.Drops) && isSpan(s.Pace, drip) && isSpan(s.Step, drip)
}

func validGait(g api.Gait) bool {
	slow := span(0, api.MaxSlow)
	return isSpan(g.Pace, slow) && isSpan(g.Step, slow)
}

// areStops reports whether these are few enough places of the town, no two the same, none of them the base.
func areStops(t api.Town, base int, stops []int) bool {
	if len(stops) > api.MaxStops || slices.Contains(stops, base) {
		return false
	}
	for i := range len(stops) {
		if !arePlaces(t, stops[i]) || slices.Contains(stops[:i], stops[i]) {
			return false
		}
	}
	return true
}

// areLinks reports whether the Ids are those of links, in increasing order.
func areLinks(t api.Town, ids []int) bool {
	before := 0
	for _, id := range ids {
		isId := func(x api.Link) bool { return x.Id == id }
		if id <= before || !slices.ContainsFunc(t.Links, isId) {
			return false
		}
		before = id
	}
	return true
}
