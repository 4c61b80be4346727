package tally

import "aguador/api"

func span(lo, hi int) api.Span { return api.Span{Lo: lo, Hi: hi} }

// within reports whether all of the numbers are numbers of the span.
func within(x api.Span, numbers ...int) bool {
	for _, n := range numbers {
		if n < x.Lo || n > x.Hi {
			return false
		}
	}
	return true
}

// areKinds reports whether all of the numbers are kinds of notches.
func areKinds(numbers ...int) bool {
	return within(span(api.NotchSkin, api.NotchPaid), numbers...)
}

func isList(l []int) bool { return len(l) <= api.MaxNotches && areKinds(l...) }

func valid(x api.Tally) bool {
	return within(span(1, api.MaxId), x.Id, x.House) && isList(x.Stock) && isList(x.Foil)
}

func areValid(l []api.Tally) bool {
	for _, x := range l {
		if !valid(x) {
			return false
		}
	}
	return true
}

func validRates(r api.Rates) bool {
	return within(span(0, api.MaxRate), r.Skin, r.Half, r.Barrel, r.Paid)
}
