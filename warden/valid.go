package warden

import (
	"slices"

	"aguador/api"
	"aguador/climb"
	"aguador/fire"
	"aguador/floor"
	"aguador/mix"
	"aguador/queue"
	"aguador/rounds"
	"aguador/tally"
	"aguador/town"
)

func span(lo, hi int) api.Span { return api.Span{Lo: lo, Hi: hi} }

// within reports whether all of the numbers are numbers of the span.
func within(x api.Span, numbers ...int) bool {
	for _, n := range numbers {
		if n < x.Lo || n > x.Hi {
			return false
		}
	}
	return true
}

// validRates reports whether rates are valid. Layer 7 checks them only where it is asked what is owed, be it by no tallies.
func validRates(r api.Rates) bool {
	_, e := tally.Owes(nil, 0, r)
	return e == api.OK
}

func sameTown(a, b api.Town) bool {
	return slices.Equal(a.Places, b.Places) && slices.Equal(a.Links, b.Links)
}

// areSafe reports whether each guarded vessel of a post is safe. Pure has an error if there is no such vessel or fountain.
func areSafe(p api.Post) bool {
	return !slices.ContainsFunc(p.Guards, func(x api.Guard) bool {
		known, e := mix.Pure(p.Mix, x.Vessel, len(p.Mix.Acts), x.Fountain)
		return e != api.OK || known != api.KnownYes
	})
}

func validGuards(p api.Post) bool {
	before := 0
	for _, x := range p.Guards {
		if x.Vessel <= before {
			return false
		}
		before = x.Vessel
	}
	return areSafe(p)
}

// couldBe reports whether an order of this kind, with these numbers, could be, whatever its Number is.
func couldBe(x api.Order) bool {
	return within(span(api.OrderFails, api.OrderFire), x.Kind) && within(span(0, api.MaxPence), x.A, x.B)
}

func validOrders(l []api.Order) bool {
	if len(l) > api.MaxOrders {
		return false
	}
	before := 0
	for _, x := range l {
		if x.Number <= before || x.Number > api.MaxId || !couldBe(x) {
			return false
		}
		before = x.Number
	}
	return true
}

func valid(p api.Post) bool {
	return climb.Check(p.Town) == api.OK &&
		queue.Check(p.Dawn) == api.OK &&
		mix.Check(p.Mix) == api.OK &&
		rounds.Check(p.Rounds) == api.OK &&
		tally.Check(p.Tally) == api.OK &&
		validRates(p.Rates) &&
		floor.Check(p.Floors) == api.OK &&
		town.Check(p.Supply) == api.OK &&
		fire.Check(p.Bell) == api.OK &&
		sameTown(p.Town, p.Rounds.Town) && sameTown(p.Town, p.Bell.Town) &&
		validGuards(p) && validOrders(p.Orders)
}
