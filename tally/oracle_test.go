package tally_test

import (
	"slices"
	"strconv"
	"strings"

	"aguador/api"
)

// rowsOf is all lists of the kinds 1 to kinds, of at most so many notches, in order.
func rowsOf(kinds, longest int) [][]int {
	all := [][]int{nil}
	if longest == 0 {
		return all
	}
	for kind := 1; kind <= kinds; kind++ {
		for _, l := range rowsOf(kinds, longest-1) {
			all = append(all, append(ints(kind), l...))
		}
	}
	return all
}

func key(l []int) string {
	var b strings.Builder
	for _, n := range l {
		b.WriteString(strconv.Itoa(n))
		b.WriteByte(' ')
	}
	return b.String()
}

// world is all lists of some kinds up to a length. Between two lists no longer one is needed.
type world struct {
	kinds, longest int
	all            [][]int
	known          map[string]map[string]int
}

func newWorld(kinds, longest int) world {
	return world{kinds, longest, rowsOf(kinds, longest), map[string]map[string]int{}}
}

// edited is all lists to which one edit leads.
func (w world) edited(l []int) (all [][]int) {
	for at := range len(l) + 1 {
		for kind := 1; kind <= w.kinds; kind++ {
			if len(l) < w.longest {
				all = append(all, slices.Insert(slices.Clone(l), at, kind))
			}
			if at < len(l) {
				turned := slices.Clone(l)
				turned[at] = kind
				all = append(all, turned)
			}
		}
		if at < len(l) {
			all = append(all, slices.Delete(slices.Clone(l), at, at+1))
		}
	}
	return all
}

// from is how many edits lead to each list, at least: one edit after the other is tried.
func (w world) from(l []int) map[string]int {
	if m, ok := w.known[key(l)]; ok {
		return m
	}
	m := map[string]int{key(l): 0}
	for next := [][]int{l}; len(next) > 0; {
		x := next[0]
		next = next[1:]
		for _, y := range w.edited(x) {
			if _, ok := m[key(y)]; !ok {
				m[key(y)] = m[key(x)] + 1
				next = append(next, y)
			}
		}
	}
	w.known[key(l)] = m
	return m
}

// trueOnes is all true lists of a tally, in order: each list of the world is tried.
func (w world) trueOnes(x api.Tally) (l [][]int) {
	a, b := w.from(x.Stock), w.from(x.Foil)
	for _, y := range w.all {
		if k := key(y); a[k]+b[k] == a[key(x.Foil)] {
			l = append(l, y)
		}
	}
	return l
}

// grown is how far each beginning of a list is from another list, when this gets a notch more.
func grown(before, list []int, kind int) []int {
	l := ints(before[0] + 1)
	for i, n := range list {
		by := before[i] + 1
		if n == kind {
			by = before[i]
		}
		l = append(l, min(by, before[i+1]+1, l[i]+1))
	}
	return l
}

// counting is how far each beginning of a list is from the empty one.
func counting(list []int) []int {
	l := ints(0)
	for i := range list {
		l = append(l, i+1)
	}
	return l
}

// far is how many notches are false between two lists.
func far(a, b []int) int {
	l := counting(a)
	for _, kind := range b {
		l = grown(l, a, kind)
	}
	return l[len(a)]
}

// front is a list that is begun, and how far each beginning of the stock and of the foil is from it; and how far the rests behind these are from each other.
type front struct {
	tally       api.Tally
	list        []int
	stock, foil []int
	rests       [][]int
}

func begun(x api.Tally) front {
	f := front{tally: x, stock: counting(x.Stock), foil: counting(x.Foil)}
	for i := range f.stock {
		f.rests = append(f.rests, nil)
		for k := range f.foil {
			f.rests[i] = append(f.rests[i], far(x.Stock[i:], x.Foil[k:]))
		}
	}
	return f
}

func (f front) with(kind int) front {
	f.list = append(slices.Clone(f.list), kind)
	f.stock, f.foil = grown(f.stock, f.tally.Stock, kind), grown(f.foil, f.tally.Foil, kind)
	return f
}

// isTrue reports whether the list is a true one.
func (f front) isTrue() bool {
	return f.stock[len(f.stock)-1]+f.foil[len(f.foil)-1] == f.rests[0][0]
}

// leads reports whether some true list begins so. If one does, it also does with the rest of the stock behind it, from some place on.
func (f front) leads() bool {
	for i, a := range f.stock {
		for k, b := range f.foil {
			if a+b+f.rests[i][k] == f.rests[0][0] {
				return true
			}
		}
	}
	return false
}

// firstLists is the first true lists of a tally, in order, so many at most.
func firstLists(x api.Tally, most int) (all [][]int) {
	var follow func(f front)
	follow = func(f front) {
		if len(all) == most || !f.leads() {
			return
		}
		if f.isTrue() {
			all = append(all, f.list)
		}
		for kind := 1; kind <= 4; kind++ {
			follow(f.with(kind))
		}
	}
	follow(begun(x))
	return all
}

// comesTo is what true lists come to, at least and at most. What is told of a list that is begun is so of each that is as far from all beginnings.
func comesTo(x api.Tally, worth [5]int) api.Span {
	known := map[string]*api.Span{}
	var behind func(f front) *api.Span
	behind = func(f front) *api.Span {
		k := key(f.stock) + "/" + key(f.foil)
		if s, ok := known[k]; ok {
			return s
		}
		var best *api.Span
		widen := func(s api.Span) {
			if best == nil {
				best = &s
			}
			best = &api.Span{Lo: min(best.Lo, s.Lo), Hi: max(best.Hi, s.Hi)}
		}
		if f.leads() {
			if f.isTrue() {
				widen(api.Span{})
			}
			for kind := 1; kind <= 4; kind++ {
				if s := behind(f.with(kind)); s != nil {
					widen(span(s.Lo+worth[kind], s.Hi+worth[kind]))
				}
			}
		}
		known[k] = best
		return best
	}
	return *behind(begun(x))
}

// sums is what some lists come to, at least and at most.
func sums(l [][]int, worth [5]int) api.Span {
	total := func(list []int) (n int) {
		for _, kind := range list {
			n += worth[kind]
		}
		return n
	}
	x := span(total(l[0]), total(l[0]))
	for _, list := range l {
		x = span(min(x.Lo, total(list)), max(x.Hi, total(list)))
	}
	return x
}

func worthOf(r api.Rates) [5]int { return [5]int{0, r.Skin, r.Half, r.Barrel, -r.Paid} }

// edited is a list after an edit.
func edited(l []int, x api.Edit) []int {
	l = slices.Clone(l)
	switch x.Kind {
	case api.EditCut:
		return slices.Delete(l, x.At, x.At+1)
	case api.EditAdd:
		return slices.Insert(l, x.At, x.Notch)
	}
	l[x.At] = x.Notch
	return l
}

// editsOf is what Edits has to return: at each index all edits are tried in the order of the chapter.
func editsOf(l, goal []int) (all []api.Edit) {
	for at := 0; !slices.Equal(l, goal); {
		if at < len(l) && at < len(goal) && l[at] == goal[at] {
			at++
			continue
		}
		var can []api.Edit
		if at < len(l) && at < len(goal) {
			can = append(can, turn(at, goal[at]))
		}
		if at < len(l) {
			can = append(can, off(at))
		}
		if at < len(goal) {
			can = append(can, add(at, goal[at]))
		}
		i := slices.IndexFunc(can, func(x api.Edit) bool {
			return far(edited(l, x)[at:], goal[at:]) < far(l[at:], goal[at:])
		})
		all = append(all, can[i])
		l = edited(l, can[i])
	}
	return all
}

// orders is all orders of the numbers below many, in order.
func orders(many int) [][]int {
	all := [][]int{nil}
	for range many {
		var longer [][]int
		for _, l := range all {
			for n := range many {
				if !slices.Contains(l, n) {
					longer = append(longer, append(slices.Clone(l), n))
				}
			}
		}
		all = longer
	}
	return all
}

// matchings is all matchings with the fewest false notches, in order, and how many these are.
func matchings(l []api.Tally) (best [][]int, least int) {
	for _, m := range orders(len(l)) {
		n := 0
		for stock, foil := range m {
			n += far(l[stock].Stock, l[foil].Foil)
		}
		if len(best) == 0 || n < least {
			best, least = nil, n
		}
		if n == least {
			best = append(best, m)
		}
	}
	return best, least
}

// dice is a row of numbers that looks thrown, the same in each run.
type dice struct{ state uint64 }

// upTo returns a number from lo to hi.
func (d *dice) upTo(lo, hi int) int {
	d.state = d.state*6364136223846793005 + 1442695040888963407
	return lo + int(d.state>>33)%(hi-lo+1)
}

func (d *dice) one(l []int) int { return l[d.upTo(0, len(l)-1)] }

func (d *dice) list(longest, kinds int) (l []int) {
	for range d.upTo(0, longest) {
		l = append(l, d.upTo(1, kinds))
	}
	return l
}

// changed is the list after so many edits, as far as it does not get longer than some length.
func (d *dice) changed(l []int, many, longest int) []int {
	l = slices.Clone(l)
	for range many {
		switch kind := d.upTo(1, 3); {
		case kind == api.EditAdd && len(l) < longest:
			l = edited(l, add(d.upTo(0, len(l)), d.upTo(1, 4)))
		case kind == api.EditCut && len(l) > 0:
			l = edited(l, off(d.upTo(0, len(l)-1)))
		case len(l) > 0:
			l = edited(l, turn(d.upTo(0, len(l)-1), d.upTo(1, 4)))
		}
	}
	return l
}

// tally is one of which the halves are alike, or not at all.
func (d *dice) tally(longest int) api.Tally {
	x := api.Tally{Id: d.upTo(1, api.MaxId), House: d.upTo(1, 3), Stock: d.list(longest, d.one(ints(1, 2, 3, 4, 4)))}
	if d.upTo(0, 2) == 0 {
		x.Foil = d.list(longest, d.one(ints(1, 2, 3, 4, 4)))
		return x
	}
	x.Foil = d.changed(x.Stock, d.upTo(0, 6), longest)
	return x
}
