package tally

import (
	"iter"
	"slices"

	"aguador/api"
)

// matchings yields all matchings of so many stocks and foils, in order.
func matchings(many int) iter.Seq[[]int] {
	return func(yield func([]int) bool) {
		left := map[int]bool{}
		for foil := range many {
			left[foil] = true
		}
		var match func(l []int) bool
		match = func(l []int) bool {
			if len(l) == many {
				return yield(l)
			}
			for foil := range many {
				if !left[foil] {
					continue
				}
				delete(left, foil)
				if !match(append(slices.Clone(l), foil)) {
					return false
				}
				left[foil] = true
			}
			return true
		}
		match(nil)
	}
}

// falseTogether returns how many notches are false between each stock and each foil.
func falseTogether(l []pair) [api.MaxTallies][api.MaxTallies]int {
	var n [api.MaxTallies][api.MaxTallies]int
	for i, a := range l {
		for k, b := range l {
			n[i][k] = paired(api.Tally{Stock: a.Stock, Foil: b.Foil}).falseNotches()
		}
	}
	return n
}

// fewest returns all matchings with the fewest false notches, in order, and how many these are.
func fewest(l []pair) ([][]int, int) {
	together := falseTogether(l)
	falseIn := func(m []int) (n int) {
		for stock, foil := range m {
			n += together[stock][foil]
		}
		return n
	}
	least := around(matchings(len(l)), func(m []int) api.Span { return span(falseIn(m), falseIn(m)) }).Lo
	var all [][]int
	for m := range matchings(len(l)) {
		if falseIn(m) == least {
			all = append(all, m)
		}
	}
	return all, least
}

// same returns the index of each stock's foil, if it is the same in all matchings, and -1 if not.
func same(all [][]int) []int {
	l := slices.Clone(all[0])
	for _, m := range all {
		for stock, foil := range m {
			if l[stock] != foil {
				l[stock] = -1
			}
		}
	}
	return l
}
