package floor

import (
	"cmp"
	"iter"
	"slices"

	"aguador/api"
)

// lists yields all lists of payments that settle and of which no pairs of floors form a ring, each one once. No others are needed: on a ring, what is paid one way round can be made less and the other way round more until somewhere nothing is paid, and by one of both ways it costs no more pence.
func (h house) lists() iter.Seq[[]api.Payment] {
	return func(yield func([]api.Payment) bool) {
		var choose func(chosen, open []pair) bool
		choose = func(chosen, open []pair) bool {
			if l, ok := h.payments(chosen); ok && !yield(l) {
				return false
			}
			all := groups(h.Ids, chosen)
		choosing:
			for i, p := range open {
				for _, group := range all {
					if slices.Contains(group, p[0]) && slices.Contains(group, p[1]) {
						continue choosing
					}
				}
				if !choose(append(slices.Clone(chosen), p), open[i+1:]) {
					return false
				}
			}
			return true
		}
		choose(nil, pairs(h.Ids, h.speak))
	}
}

// payments returns what is paid between pairs that form no ring: false if it does not settle, or if there is a pair between which nothing is paid.
func (h house) payments(chosen []pair) ([]api.Payment, bool) {
	left := map[int]bool{}
	for _, id := range h.Ids {
		left[id] = true
	}
	var l []api.Payment
	// The floors behind a pair can get what they are owed together by this pair only.
	var pay func(id int) int
	pay = func(id int) int {
		delete(left, id)
		together := h.owed[id]
		for _, p := range chosen {
			if to, ok := p.across(id); ok && left[to] {
				behind := pay(to)
				l = append(l, payment(id, to, behind))
				together += behind
			}
		}
		return together
	}
	for _, id := range h.Ids {
		if left[id] && pay(id) != 0 {
			return nil, false
		}
	}
	slices.SortFunc(l, byNumbers)
	isNone := func(x api.Payment) bool { return x.Pence == 0 }
	return l, !slices.ContainsFunc(l, isNone)
}

// payment returns what a floor pays to another one, or gets from it if the pence are below 0.
func payment(from, to, pence int) api.Payment {
	if pence < 0 {
		return api.Payment{From: to, To: from, Pence: -pence}
	}
	return api.Payment{From: from, To: to, Pence: pence}
}

// canSettle reports whether some list of payments settles.
func (h house) canSettle() bool {
	for range h.lists() {
		return true
	}
	return false
}

// fewest returns all lists of the fewest payments.
func (h house) fewest() [][]api.Payment {
	var all [][]api.Payment
	for l := range h.lists() {
		if len(all) > 0 && len(l) < len(all[0]) {
			all = nil
		}
		if len(all) == 0 || len(l) == len(all[0]) {
			all = append(all, l)
		}
	}
	return all
}

// sure returns the payments that are in each of some lists.
func sure(all [][]api.Payment) []api.Payment {
	left := slices.Clone(all[0])
	for _, l := range all[1:] {
		left = slices.DeleteFunc(left, func(x api.Payment) bool { return !slices.Contains(l, x) })
	}
	return left
}

// pence returns how many pence change hands.
func pence(l []api.Payment) (n int) {
	for _, x := range l {
		n += x.Pence
	}
	return n
}

func isCheaper(a, b []api.Payment) bool { return pence(a) < pence(b) }

func byNumbers(a, b api.Payment) int {
	return cmp.Or(cmp.Compare(a.From, b.From), cmp.Compare(a.To, b.To), cmp.Compare(a.Pence, b.Pence))
}

// isBefore reports whether a list is before another one with as many payments.
func isBefore(a, b []api.Payment) bool {
	return cmp.Or(cmp.Compare(pence(a), pence(b)), slices.CompareFunc(a, b, byNumbers)) < 0
}

// first returns the first thing by an order, of which there is one at least.
func first[T any](all iter.Seq[T], before func(a, b T) bool) T {
	var best T
	found := false
	for x := range all {
		if !found || before(x, best) {
			best, found = x, true
		}
	}
	return best
}
