package mix

import (
	"math"
	"slices"

	"aguador/api"
)

func span(lo, hi int) api.Span { return api.Span{Lo: lo, Hi: hi} }

// within reports whether all of the numbers are numbers of the span.
func within(x api.Span, numbers ...int) bool {
	for _, n := range numbers {
		if n < x.Lo || n > x.Hi {
			return false
		}
	}
	return true
}

// isSpan reports whether x is a span of numbers of another one.
func isSpan(x, of api.Span) bool { return x.Lo <= x.Hi && within(of, x.Lo, x.Hi) }

// areVessels reports whether all of the numbers are Ids of vessels.
func areVessels(m api.Mix, ids ...int) bool {
	for _, id := range ids {
		if index(m, id) == outside {
			return false
		}
	}
	return true
}

func areFountains(m api.Mix, fountains ...int) bool {
	return within(span(1, m.Fountains), fountains...)
}

func validVessels(m api.Mix) bool {
	if len(m.Vessels) > api.MaxVessels {
		return false
	}
	before := 0
	for _, v := range m.Vessels {
		if v.Id <= before || v.Id > api.MaxId || !within(span(1, api.MaxDrops), v.Size) {
			return false
		}
		before = v.Id
	}
	return true
}

// validActs reports whether there are few enough acts, and all of them can be done, one after the other.
func validActs(m api.Mix) bool {
	return len(m.Acts) <= api.MaxActs && len(follow(m)) == len(m.Acts)+1
}

func validTaste(m api.Mix, x api.Taste) bool {
	return within(span(1, api.MaxId), x.Number) &&
		areVessels(m, x.Vessel) &&
		within(span(0, len(m.Acts)), x.After) &&
		areFountains(m, x.Fountain) &&
		isSpan(x.Drops, span(0, math.MaxInt))
}

func validTastes(m api.Mix) bool {
	if len(m.Tastes) > api.MaxTastes {
		return false
	}
	before := 0
	for _, x := range m.Tastes {
		if x.Number <= before || !validTaste(m, x) {
			return false
		}
		before = x.Number
	}
	return true
}

func valid(m api.Mix) bool {
	return within(span(1, api.MaxSprings), m.Fountains) && validVessels(m) && validActs(m) && validTastes(m)
}

func hasNumber(m api.Mix, number int) bool {
	return slices.ContainsFunc(m.Tastes, func(x api.Taste) bool { return x.Number == number })
}

// areTastes reports whether the numbers are those of tastes, in increasing order.
func areTastes(m api.Mix, numbers []int) bool {
	before := 0
	for _, n := range numbers {
		if n <= before || !hasNumber(m, n) {
			return false
		}
		before = n
	}
	return true
}
