package fire

import (
	"iter"
	"slices"

	"aguador/api"
	"aguador/climb"
)

// ends is from where a way leads, and to where.
type ends [2]int

// watch is a bell at work, which is valid, with how many minutes the ways take that were asked before.
type watch struct {
	api.Bell
	ways map[ends]api.Span
}

// way returns how many minutes a way takes: false if there is none.
func (w watch) way(x ends) (api.Span, bool) {
	if s, ok := w.ways[x]; ok {
		return s, true
	}
	// The bell is valid: there is no other error than that there is no walk.
	s, e := climb.Minutes(w.Town, w.Gait, x[0], x[1], false)
	if e != api.OK {
		return api.Span{}, false
	}
	w.ways[x] = s
	return s, true
}

// least returns how many minutes a way takes at least: false if there is none.
func (w watch) least(x ends) (int, bool) {
	s, ok := w.way(x)
	return s.Lo, ok
}

// most returns how many minutes a way takes at most: false if there is none.
func (w watch) most(x ends) (int, bool) {
	s, ok := w.way(x)
	return s.Hi, ok
}

// tasks yields the tasks that a porter can do if ways take so long, in the order of wells and beats. A well has more beats than are told, but these are more than there are porters: one is left whoever else has some, and to cover all of them is more than to cover all porters.
func (w watch) tasks(p api.Porter, takes func(x ends) (int, bool)) iter.Seq[api.Task] {
	return func(yield func(api.Task) bool) {
		if p.Full {
			if there, ok := takes(ends{p.At, w.Place}); ok {
				yield(api.Task{Porter: p.Id, There: there})
			}
			return
		}
		for _, x := range w.Wells {
			to, isTo := takes(ends{p.At, x.Place})
			from, isFrom := takes(ends{x.Place, w.Place})
			if !isTo || !isFrom {
				continue
			}
			for k := range len(w.Porters) + 1 {
				beat := (to+x.Every-1)/x.Every + 1 + k
				if !yield(api.Task{Porter: p.Id, Well: x.Id, Beat: beat, There: beat*x.Every + from}) {
					return
				}
			}
		}
	}
}

// earliest returns the first minute by which a porter is there, if it has all wells for itself and ways take so long: false if it never is.
func (w watch) earliest(p api.Porter, takes func(x ends) (int, bool)) (int, bool) {
	isSooner := func(a, b api.Task) bool { return a.There < b.There }
	x, ok := first(w.tasks(p, takes), isSooner)
	return x.There, ok
}

// reach returns the first minutes by which a porter can be there, and surely is: false if it never is.
func (w watch) reach(p api.Porter) (api.Span, bool) {
	can, isThere := w.earliest(p, w.least)
	surely, _ := w.earliest(p, w.most)
	return span(can, surely), isThere
}

// all returns the tasks of each porter if ways take so long, also of those who have none.
func (w watch) all(takes func(x ends) (int, bool)) [][]api.Task {
	var l [][]api.Task
	for i := range len(w.Porters) {
		l = append(l, slices.Collect(w.tasks(w.Porters[i], takes)))
	}
	return l
}

// only returns those of the tasks that are so, of each porter who has any.
func only(tasks [][]api.Task, is func(x api.Task) bool) [][]api.Task {
	var all [][]api.Task
	for _, mine := range tasks {
		var l []api.Task
		for _, x := range mine {
			if is(x) {
				l = append(l, x)
			}
		}
		if len(l) > 0 {
			all = append(all, l)
		}
	}
	return all
}

// by returns those of the tasks by which a porter is there by a minute.
func by(minute int, tasks [][]api.Task) [][]api.Task {
	return only(tasks, func(x api.Task) bool { return x.There <= minute })
}

// first returns the first thing by an order, of several the one that stands first: false if there is none.
func first[T any](all iter.Seq[T], before func(a, b T) bool) (T, bool) {
	var best T
	found := false
	for x := range all {
		if !found || before(x, best) {
			best, found = x, true
		}
	}
	return best, found
}
