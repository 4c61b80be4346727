package floor

import (
	"cmp"
	"slices"

	"aguador/api"
)

func span(lo, hi int) api.Span { return api.Span{Lo: lo, Hi: hi} }

// within reports whether all of the numbers are numbers of the span.
func within(x api.Span, numbers ...int) bool {
	for _, n := range numbers {
		if n < x.Lo || n > x.Hi {
			return false
		}
	}
	return true
}

// isRising reports whether the numbers are in increasing order, no one twice.
func isRising(numbers []int) bool {
	for i := range len(numbers) - 1 {
		if numbers[i] >= numbers[i+1] {
			return false
		}
	}
	return true
}

// areFloors reports whether all of the numbers are Ids of floors.
func areFloors(f api.Floors, ids ...int) bool {
	return !slices.ContainsFunc(ids, func(id int) bool { return !slices.Contains(f.Ids, id) })
}

func arePence(numbers ...int) bool { return within(span(1, api.MaxPence), numbers...) }

// billAt returns the index of the bill with a number, and -1 if there is none.
func billAt(f api.Floors, number int) int {
	return slices.IndexFunc(f.Bills, func(x api.Bill) bool { return x.Number == number })
}

// compare tells which one of two quarrels is before the other one.
func compare(a, b api.Quarrel) int {
	return cmp.Or(cmp.Compare(a.A, b.A), cmp.Compare(a.B, b.B))
}

func validQuarrels(f api.Floors) bool {
	var before api.Quarrel
	for _, x := range f.Quarrels {
		if x.A >= x.B || !areFloors(f, x.A, x.B) || compare(before, x) >= 0 {
			return false
		}
		before = x
	}
	return true
}

func validStakes(f api.Floors, l []api.Stake) bool {
	before := 0
	for _, x := range l {
		if x.Floor <= before || !areFloors(f, x.Floor) || !within(span(1, api.MaxParts), x.Parts) {
			return false
		}
		before = x.Floor
	}
	return len(l) > 0
}

func validBills(f api.Floors) bool {
	if len(f.Bills) > api.MaxBills {
		return false
	}
	before := 0
	for _, x := range f.Bills {
		if x.Number <= before || x.Number > api.MaxId || !areFloors(f, x.Payer) || !arePence(x.Pence) ||
			!validStakes(f, x.Stakes) {
			return false
		}
		before = x.Number
	}
	return true
}

func validPayment(f api.Floors, x api.Payment) bool {
	return x.From != x.To && areFloors(f, x.From, x.To) && arePence(x.Pence)
}

func validPaid(f api.Floors) bool {
	isNone := func(x api.Payment) bool { return !validPayment(f, x) }
	return len(f.Paid) <= api.MaxPaid && !slices.ContainsFunc(f.Paid, isNone)
}

func valid(f api.Floors) bool {
	return len(f.Ids) <= api.MaxFloors && isRising(f.Ids) && within(span(1, api.MaxId), f.Ids...) &&
		validQuarrels(f) && validBills(f) && validPaid(f)
}
