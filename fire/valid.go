package fire

import (
	"slices"

	"aguador/api"
	"aguador/climb"
)

func span(lo, hi int) api.Span { return api.Span{Lo: lo, Hi: hi} }

// within reports whether all of the numbers are numbers of the span.
func within(x api.Span, numbers ...int) bool {
	for _, n := range numbers {
		if n < x.Lo || n > x.Hi {
			return false
		}
	}
	return true
}

// isRising reports whether the numbers are in increasing order, no one twice.
func isRising(numbers []int) bool {
	for i := range len(numbers) - 1 {
		if numbers[i] >= numbers[i+1] {
			return false
		}
	}
	return true
}

// porterAt returns the index of the porter with an Id, and -1 if there is none.
func porterAt(b api.Bell, id int) int {
	return slices.IndexFunc(b.Porters, func(x api.Porter) bool { return x.Id == id })
}

// wellAt returns the index of the well with an Id, and -1 if there is none.
func wellAt(b api.Bell, id int) int {
	return slices.IndexFunc(b.Wells, func(x api.Well) bool { return x.Id == id })
}

// areClaims reports whether all of the numbers are those of claims.
func areClaims(b api.Bell, numbers ...int) bool {
	for _, n := range numbers {
		if !slices.ContainsFunc(b.Claims, func(x api.Claim) bool { return x.Number == n }) {
			return false
		}
	}
	return true
}

// validWays reports whether the town, the gait and the place of the fire are valid: climb checks all of them, and to the place itself there always is a way.
func validWays(b api.Bell) bool {
	_, e := climb.Minutes(b.Town, b.Gait, b.Place, b.Place, false)
	return e == api.OK
}

func validWells(b api.Bell) bool {
	if len(b.Wells) > api.MaxWells {
		return false
	}
	before := 0
	for _, x := range b.Wells {
		if !within(span(before+1, api.MaxId), x.Id) || !slices.Contains(b.Town.Places, x.Place) || !within(span(1, api.MaxEvery), x.Every) {
			return false
		}
		before = x.Id
	}
	return true
}

func validPorters(b api.Bell) bool {
	if len(b.Porters) > api.MaxPorters {
		return false
	}
	before := 0
	for _, x := range b.Porters {
		if !within(span(before+1, api.MaxId), x.Id) || !slices.Contains(b.Town.Places, x.At) {
			return false
		}
		before = x.Id
	}
	return true
}

func validClaims(b api.Bell) bool {
	if len(b.Claims) > api.MaxClaims {
		return false
	}
	before := 0
	for _, x := range b.Claims {
		if !within(span(before+1, api.MaxId), x.Number) || porterAt(b, x.Porter) < 0 || x.Minute < 0 {
			return false
		}
		before = x.Number
	}
	return true
}

func valid(b api.Bell) bool {
	return validWays(b) && validWells(b) && validPorters(b) && validClaims(b)
}
