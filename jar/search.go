package jar

import (
	"iter"
	"slices"

	"aguador/api"
)

// lists yields all lists of some of the numbers, up to a length: shorter ones first, those of one length in order.
func lists(numbers []int, longest int) iter.Seq[[]int] {
	return func(yield func([]int) bool) {
		var choose func(l []int, from, many int) bool
		choose = func(l []int, from, many int) bool {
			if many == 0 {
				return yield(l)
			}
			for i := from; i < len(numbers); i++ {
				if !choose(append(slices.Clone(l), numbers[i]), i+1, many-1) {
					return false
				}
			}
			return true
		}
		for many := range longest + 1 {
			if !choose(nil, 0, many) {
				return
			}
		}
	}
}

// few returns the first list of at most MaxMore of the numbers that is enough: ErrMany if none is.
func few(numbers []int, isEnough func(l []int) bool) ([]int, api.Errno) {
	for l := range lists(numbers, api.MaxMore) {
		if isEnough(l) {
			return l, api.OK
		}
	}
	return nil, api.ErrMany
}

// firstDay returns the first day of which something is so: ErrNone if there is none.
func (y story) firstDay(is func(day int) bool) (int, api.Errno) {
	for day := range y.Days {
		if is(day) {
			return day, api.OK
		}
	}
	return 0, api.ErrNone
}

// later returns all days behind those of all sights.
func (h house) later() []int {
	var l []int
	for day := firstLater(h.Jar); day < h.Days; day++ {
		l = append(l, day)
	}
	return l
}

// gone returns all days from which on the house can be gone.
func (y story) gone() []int {
	var l []int
	for day := range y.Days {
		if y.canLeave(day) {
			l = append(l, day)
		}
	}
	if y.canStay() {
		l = append(l, y.Days)
	}
	return l
}

// idle returns what need not be brought on later days, by its indices.
func (h house) idle() []int {
	var l []int
	for i, x := range h.Brings {
		if x.Day >= firstLater(h.Jar) && h.with(-x.Pints, x.Day).isSafe() {
			l = append(l, i)
		}
	}
	return l
}

// sightIds returns the Ids of all sights.
func (h house) sightIds() []int {
	var l []int
	for _, x := range h.Sights {
		l = append(l, x.Id)
	}
	return l
}
