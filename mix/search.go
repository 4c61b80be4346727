package mix

import (
	"iter"
	"slices"

	"aguador/api"
)

// place is a vessel, by its index, and a time.
type place struct{ vessel, after int }

// first returns the first thing by an order; of several, the one that stands first.
func first[T any](l []T, before func(a, b T) bool) T {
	var best T
	for i, x := range l {
		if i == 0 || before(x, best) {
			best = x
		}
	}
	return best
}

// isBefore is the order of lists.
func isBefore(a, b []int) bool {
	if len(a) != len(b) {
		return len(a) < len(b)
	}
	return slices.Compare(a, b) < 0
}

// lists yields all lists of some of the numbers, up to a length, in their order.
func lists(numbers []int, longest int) iter.Seq[[]int] {
	return func(yield func([]int) bool) {
		var choose func(l []int, from, many int) bool
		choose = func(l []int, from, many int) bool {
			if many == 0 {
				return yield(l)
			}
			for i := from; i < len(numbers); i++ {
				if !choose(append(slices.Clone(l), numbers[i]), i+1, many-1) {
					return false
				}
			}
			return true
		}
		for many := range longest + 1 {
			if !choose(nil, 0, many) {
				return
			}
		}
	}
}

// turns yields in which vessels a drop of a fountain can be after the next act; a drop that is lost is in none.
func (s share) turns(at place) iter.Seq[int] {
	x := s.Acts[at.after]
	from, to := ends(s.Mix, x)
	isTaken := at.vessel == from
	canStay := !isTaken || from == outside || s.holds[at.after+1][from] > 0
	canGo := isTaken && to != outside && (from != outside || x.From == s.fountain)
	return func(yield func(int) bool) {
		if canStay && !yield(at.vessel) {
			return
		}
		if canGo {
			yield(to)
		}
	}
}

// ways returns all ways of a drop of the fountain to a place.
func (s share) ways(goal place) [][]int {
	var all [][]int
	var follow func(at place, l []int)
	follow = func(at place, l []int) {
		if at == goal {
			all = append(all, l)
		}
		if at.after == goal.after {
			return
		}
		for to := range s.turns(at) {
			next := place{to, at.after + 1}
			if to == at.vessel {
				follow(next, l)
			} else {
				follow(next, append(slices.Clone(l), next.after))
			}
		}
	}
	follow(place{vessel: outside}, nil)
	return all
}

// canBoth reports whether an act can bring two drops from their vessels to others, where it can bring each one. Only where both go together out of a vessel, or stay there together, it is not enough that a single one can.
func (b table) canBoth(i int, at, to [2]int) bool {
	from, _ := ends(b.Mix, b.Acts[i])
	if from == outside || at != [2]int{from, from} || to[0] != to[1] {
		return true
	}
	stay := b.holds[i+1][from]
	if to[0] == from {
		return stay >= len(to)
	}
	return b.holds[i][from]-stay >= len(to)
}

// meets reports whether drops of two fountains can be at a place together.
func (b table) meets(one, other int, goal place) bool {
	pairs := map[[2]int]bool{{outside, outside}: true}
	for i := range goal.after {
		next := map[[2]int]bool{}
		for at := range pairs {
			for x := range (share{b, one}).turns(place{at[0], i}) {
				for y := range (share{b, other}).turns(place{at[1], i}) {
					if to := [2]int{x, y}; b.canBoth(i, at, to) {
						next[to] = true
					}
				}
			}
		}
		pairs = next
	}
	return pairs[[2]int{goal.vessel, goal.vessel}]
}

// watched returns the first list of acts of which each way has one at least. With all acts watched there is such a list.
func (b table) watched(ways [][]int) []int {
	var acts []int
	for i := range len(b.Acts) {
		acts = append(acts, i+1)
	}
next:
	for l := range lists(acts, len(acts)) {
		for _, way := range ways {
			isWatched := func(act int) bool { return slices.Contains(l, act) }
			if !slices.ContainsFunc(way, isWatched) {
				continue next
			}
		}
		return l
	}
	return nil
}

// untrue returns the first list of tastes of the fountain without which it has a truth: false if too many are needed.
func (s share) untrue() ([]int, bool) {
	var numbers []int
	for _, x := range s.Tastes {
		if x.Fountain == s.fountain {
			numbers = append(numbers, x.Number)
		}
	}
	for l := range lists(numbers, api.MaxStruck) {
		if (share{s.without(l...), s.fountain}).isTrue() {
			return l, true
		}
	}
	return nil, false
}
