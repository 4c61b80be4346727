package jar

import (
	"cmp"
	"iter"
	"maps"
	"math"
	"slices"

	"aguador/api"
)

// house is a jar at work: it is valid, and it is known what is brought on each day, and what is seen at its end.
type house struct {
	api.Jar
	brought [api.MaxDays]int
	seen    [api.MaxDays][]api.Sight
}

// state is what is so at the end of a day, or before the first one: what the jar holds, what was wanted in the week so far, and whether the house is gone, and the jar has run dry.
type state struct {
	held, wanted  int
	isGone, isDry bool
}

// turn is what can become of a day: what is wanted, and what runs over.
type turn struct {
	from, then  state
	wants, over int
}

// states are those that can be, each with what can have run over by then.
type states map[state]api.Span

// story is a house of which some truth is known: its states before the first day and at the end of each one, in all truths.
type story struct {
	house
	can []states
}

func kept(j api.Jar) house {
	h := house{Jar: j}
	for _, x := range j.Brings {
		h.brought[x.Day] += x.Pints
	}
	for _, x := range j.Sights {
		h.seen[x.Day] = append(h.seen[x.Day], x)
	}
	return h
}

// with returns the house to which so many pints more are brought on each of the days.
func (h house) with(pints int, days ...int) house {
	for _, day := range days {
		h.brought[day] += pints
	}
	return h
}

// without returns the house without the sights of these Ids.
func (h house) without(ids ...int) house {
	left := map[int]api.Sight{}
	for _, x := range h.Sights {
		left[x.Id] = x
	}
	for _, id := range ids {
		delete(left, id)
	}
	j := copied(h.Jar)
	j.Sights = slices.SortedFunc(maps.Values(left), func(a, b api.Sight) int { return cmp.Compare(a.Id, b.Id) })
	return kept(j)
}

// copied returns a jar that shares no memory with another one.
func copied(j api.Jar) api.Jar {
	j.Sights = slices.Clone(j.Sights)
	j.Brings = slices.Clone(j.Brings)
	return j
}

// taking returns what is so when so many pints were wanted.
func (s state) taking(pints int) state {
	s.wanted += pints
	s.isDry = s.isDry || pints > s.held
	s.held = max(0, s.held-pints)
	return s
}

// canWant reports whether a house that is there on a day can have wanted so many pints in the week by its end. Only one that is there on the last one of seven days must have wanted the least.
func (h house) canWant(day, pints int) bool {
	least := 0
	if day%weekDays == weekDays-1 {
		least = h.Week.Lo
	}
	return within(span(least, h.Week.Hi), pints)
}

// turns yields what can become of a day, sights not regarded.
func (h house) turns(day int, from state) iter.Seq[turn] {
	s := from
	if day%weekDays == 0 {
		s.wanted = 0
	}
	s.held = min(from.held+h.brought[day], h.Full)
	over := from.held + h.brought[day] - s.held
	return func(yield func(turn) bool) {
		if h.May == api.KnownOpen {
			gone := s
			gone.isGone = true
			if !yield(turn{from, gone, 0, over}) {
				return
			}
		}
		if s.isGone {
			return
		}
		for n := h.Use.Lo; n <= h.Use.Hi; n++ {
			then := s.taking(n)
			if h.canWant(day, then.wanted) && !yield(turn{from, then, n, over}) {
				return
			}
		}
	}
}

// add puts in a state, with what can have run over by then.
func (l states) add(s state, lost api.Span) {
	before, ok := l[s]
	if !ok {
		before = lost
	}
	all := span(min(before.Lo, lost.Lo), max(before.Hi, lost.Hi))
	if !ok || all != before {
		l[s] = all
	}
}

// after returns the states at the end of a day, of those before it.
func (h house) after(day int, l states) states {
	next := states{}
	for from, lost := range l {
	turns:
		for t := range h.turns(day, from) {
			for _, x := range h.seen[day] {
				if !within(x.Pints, t.then.held) {
					continue turns
				}
			}
			next.add(t.then, span(lost.Lo+t.over, lost.Hi+t.over))
		}
	}
	return next
}

// reach returns the states before the first day and at the end of each one, as far as the days up to then tell: those at the end of the last one are those of all truths.
func (h house) reach() []states {
	l := []states{{}}
	for n := h.Start.Lo; n <= h.Start.Hi; n++ {
		l[0].add(state{held: n}, api.Span{})
	}
	for day := range h.Days {
		l = append(l, h.after(day, l[day]))
	}
	return l
}

// leads reports whether a day can lead to one of the states at its end.
func (h house) leads(day int, from state, next states) bool {
	for t := range h.turns(day, from) {
		if _, ok := next[t.then]; ok {
			return true
		}
	}
	return false
}

// truths returns the story of the house: false if it has no truth.
func (h house) truths() (story, bool) {
	l := h.reach()
	for day := h.Days - 1; day >= 0; day-- {
		maps.DeleteFunc(l[day], func(s state, _ api.Span) bool { return !h.leads(day, s, l[day+1]) })
	}
	return story{h, l}, len(l[0]) > 0
}

// isTrue reports whether the house has a truth.
func (h house) isTrue() bool { return len(h.reach()[h.Days]) > 0 }

// isSafe reports whether the jar runs dry in no truth.
func (h house) isSafe() bool {
	for s := range h.reach()[h.Days] {
		if s.isDry {
			return false
		}
	}
	return true
}

// around returns the least and the greatest number of some things, of which there is one at least.
func around[T any](all iter.Seq[T], number func(x T) int) api.Span {
	x := span(math.MaxInt, math.MinInt)
	for t := range all {
		n := number(t)
		x = span(min(x.Lo, n), max(x.Hi, n))
	}
	return x
}

// at yields the states at the end of a day.
func (y story) at(day int) iter.Seq[state] { return maps.Keys(y.can[day+1]) }

// of yields what becomes of a day in all truths.
func (y story) of(day int) iter.Seq[turn] {
	return func(yield func(turn) bool) {
		for from := range y.can[day] {
			for t := range y.turns(day, from) {
				if _, ok := y.can[day+1][t.then]; ok && !yield(t) {
					return
				}
			}
		}
	}
}

// held returns all numbers of pints that the jar can hold at the end of a day.
func (y story) held(day int) map[int]bool {
	l := map[int]bool{}
	for s := range y.at(day) {
		l[s.held] = true
	}
	return l
}

// lost returns how many pints can have run over in all days.
func (y story) lost() api.Span {
	l := y.can[y.Days]
	least := around(maps.Values(l), func(x api.Span) int { return x.Lo })
	most := around(maps.Values(l), func(x api.Span) int { return x.Hi })
	return span(least.Lo, most.Hi)
}

// mayBeDry reports whether the jar has run dry by the end of a day in some truth.
func (y story) mayBeDry(day int) bool {
	for s := range y.at(day) {
		if s.isDry {
			return true
		}
	}
	return false
}

// mustBeDry reports whether it has in every truth.
func (y story) mustBeDry(day int) bool {
	for s := range y.at(day) {
		if !s.isDry {
			return false
		}
	}
	return true
}

// canLeave reports whether a day can be the first one on which the house is gone.
func (y story) canLeave(day int) bool {
	for t := range y.of(day) {
		if t.then.isGone && !t.from.isGone {
			return true
		}
	}
	return false
}

// canStay reports whether the house can be there on all days.
func (y story) canStay() bool {
	for s := range y.at(y.Days - 1) {
		if !s.isGone {
			return true
		}
	}
	return false
}
