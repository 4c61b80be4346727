package rounds

import (
	"slices"

	"aguador/api"
	"aguador/climb"
	"aguador/jar"
)

func span(lo, hi int) api.Span { return api.Span{Lo: lo, Hi: hi} }

// within reports whether all of the numbers are numbers of the span.
func within(x api.Span, numbers ...int) bool {
	for _, n := range numbers {
		if n < x.Lo || n > x.Hi {
			return false
		}
	}
	return true
}

// isRising reports whether the numbers are in increasing order, no one twice.
func isRising(numbers []int) bool {
	for i := range len(numbers) - 1 {
		if numbers[i] >= numbers[i+1] {
			return false
		}
	}
	return true
}

// homeAt returns the index of the home with an Id, and -1 if there is none.
func homeAt(r api.Rounds, id int) int {
	return slices.IndexFunc(r.Homes, func(x api.Home) bool { return x.Id == id })
}

// carrierAt returns the index of the carrier with an Id, and -1 if there is none.
func carrierAt(r api.Rounds, id int) int {
	return slices.IndexFunc(r.Carriers, func(x api.Carrier) bool { return x.Id == id })
}

// areHomes reports whether all of the numbers are Ids of homes.
func areHomes(r api.Rounds, ids ...int) bool {
	return !slices.ContainsFunc(ids, func(id int) bool { return homeAt(r, id) < 0 })
}

// areCarriers reports whether all of the numbers are Ids of carriers.
func areCarriers(r api.Rounds, ids ...int) bool {
	return !slices.ContainsFunc(ids, func(id int) bool { return carrierAt(r, id) < 0 })
}

func areDays(r api.Rounds, days ...int) bool { return within(span(r.From, r.From+r.Days-1), days...) }

// isPlan reports whether a plan has a number for each home on each of the days.
func isPlan(r api.Rounds, plan [][]int) bool {
	isOther := func(l []int) bool { return len(l) != len(r.Homes) }
	return len(plan) == r.Days && !slices.ContainsFunc(plan, isOther)
}

// areTrue reports whether the jars of all of the homes have a truth.
func areTrue(homes ...api.Home) bool {
	return !slices.ContainsFunc(homes, func(x api.Home) bool {
		is, _ := jar.Can(x.Jar)
		return !is
	})
}

// areLater reports whether all the days are later days of a jar.
func areLater(r api.Rounds, j api.Jar) bool {
	isBehind := func(x api.Sight) bool { return x.Day >= r.From }
	return r.From+r.Days <= j.Days && !slices.ContainsFunc(j.Sights, isBehind)
}

func validHomes(r api.Rounds) bool {
	if len(r.Homes) > api.MaxHomes {
		return false
	}
	before := 0
	for _, x := range r.Homes {
		if x.Id <= before || x.Id > api.MaxId || !slices.Contains(r.Town.Places, x.Place) ||
			jar.Check(x.Jar) != api.OK || !areLater(r, x.Jar) {
			return false
		}
		before = x.Id
	}
	return true
}

func validCarriers(r api.Rounds) bool {
	if len(r.Carriers) > api.MaxCarriers {
		return false
	}
	before := 0
	for _, x := range r.Carriers {
		if x.Id <= before || x.Id > api.MaxId || !slices.Contains(r.Town.Places, x.Base) ||
			!within(span(1, api.MaxHomes), x.Skins) ||
			!isRising(x.Homes) || !areHomes(r, x.Homes...) {
			return false
		}
		before = x.Id
	}
	return true
}

func valid(r api.Rounds) bool {
	return climb.Check(r.Town) == api.OK &&
		within(span(1, api.MaxRounds), r.Days) &&
		within(span(1, api.MaxJar), r.Pints) &&
		within(span(0, api.MaxDays-1), r.From) &&
		validHomes(r) && validCarriers(r)
}
