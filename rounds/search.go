package rounds

import (
	"iter"
	"slices"

	"aguador/api"
)

// thirst is the day on which a home may run dry, for each list of days on which it is served, and a day before which it must not.
type thirst struct {
	dry   map[days]int
	until int
}

// shift is a day of a plan: the Id of the carrier that serves each home, and the toil of all routes.
type shift struct {
	by   [api.MaxHomes]int
	toil api.Toil
}

// duty is the days on which each home is served.
type duty [api.MaxHomes]days

// course is a plan: the shift of each day, and their toil and skins together.
type course struct {
	duty
	shifts [api.MaxRounds]shift
	toil   api.Toil
	skins  int
}

// outlook is a guild that plans: it knows on which day each home may run dry, and the best shift for all homes that can be served on one day.
type outlook struct {
	guild
	dry  []map[days]int
	best map[load]shift
}

// first returns the first thing by an order: false if there is none.
func first[T any](all iter.Seq[T], before func(a, b T) bool) (T, bool) {
	var best T
	found := false
	for x := range all {
		if !found || before(x, best) {
			best, found = x, true
		}
	}
	return best, found
}

func isLess(a, b api.Toil) bool {
	return a.Steps < b.Steps || a.Steps == b.Steps && a.Paces < b.Paces
}

// isBetter reports whether a shift is before another one by which as many homes are served.
func isBetter(a, b shift) bool {
	if a.toil != b.toil {
		return isLess(a.toil, b.toil)
	}
	return slices.Compare(a.by[:], b.by[:]) < 0
}

// isBefore reports whether a plan is before another one.
func isBefore(a, b course) bool {
	if a.toil != b.toil {
		return isLess(a.toil, b.toil)
	}
	if a.skins != b.skins {
		return a.skins < b.skins
	}
	byNumbers := func(a, b shift) int { return slices.Compare(a.by[:], b.by[:]) }
	return slices.CompareFunc(a.shifts[:], b.shifts[:], byNumbers) < 0
}

// next returns the day behind the last one of a list.
func (l days) next() int {
	next := 0
	for day := range l {
		if l[day] {
			next = day + 1
		}
	}
	return next
}

func (l days) with(day int) days {
	l[day] = true
	return l
}

func (l days) without(day int) days {
	l[day] = false
	return l
}

// lists yields all lists of days: shorter ones first, those of one length in order.
func (g guild) lists() iter.Seq[days] {
	return func(yield func(days) bool) {
		open := []days{{}}
		for len(open) > 0 {
			l := open[0]
			open = open[1:]
			if !yield(l) {
				return
			}
			for day := l.next(); day < g.Days; day++ {
				open = append(open, l.with(day))
			}
		}
	}
}

// dryDays returns the day on which a home may run dry, for each list of days.
func (g guild) dryDays(x api.Home) map[days]int {
	all := map[days]int{}
	for l := range g.lists() {
		all[l] = g.dryOn(x, l)
	}
	return all
}

// isEnough reports whether a home that is served on a list of days may not run dry too soon.
func (t thirst) isEnough(l days) bool { return t.dry[l] >= t.until }

// isNeeded reports whether a list of days is enough, but not without any one of them.
func isNeeded(l days, isEnough func(l days) bool) bool {
	for day := range l {
		if l[day] && isEnough(l.without(day)) {
			return false
		}
	}
	return isEnough(l)
}

// needed returns all lists of days that a home needs.
func (g guild) needed(isEnough func(l days) bool) []days {
	var all []days
	for l := range g.lists() {
		if isNeeded(l, isEnough) {
			all = append(all, l)
		}
	}
	return all
}

// shifts yields all that custom allows on a day, if no home is served that does not pay.
func (g guild) shifts() iter.Seq[shift] {
	return func(yield func(shift) bool) {
		var give func(s shift, home int) bool
		give = func(s shift, home int) bool {
			if home == len(g.Homes) {
				if _, rule := g.forbids(s.by[:home]); rule != ruleNone {
					return true
				}
				s.toil = g.toil(s.by[:home])
				return yield(s)
			}
			if !give(s, home+1) {
				return false
			}
			if !g.Homes[home].Pays {
				return true
			}
			for _, c := range g.Carriers {
				s.by[home] = c.Id
				if !give(s, home+1) {
					return false
				}
			}
			return true
		}
		give(shift{}, 0)
	}
}

// homes returns those that are served.
func (s shift) homes() load {
	var l load
	for i, n := range s.by {
		l[i] = n != 0
	}
	return l
}

// on returns the homes that are served on a day.
func (d duty) on(day int) load {
	var l load
	for i := range d {
		l[i] = d[i][day]
	}
	return l
}

// with returns the plan with the shift of a day more.
func (c course) with(day int, s shift) course {
	c.shifts[day] = s
	c.toil = sum(c.toil, s.toil)
	for _, n := range s.by {
		if n != 0 {
			c.skins++
		}
	}
	return c
}

// looking returns the outlook of a guild.
func (g guild) looking() outlook {
	o := outlook{g, nil, map[load]shift{}}
	for _, x := range g.Homes {
		o.dry = append(o.dry, g.dryDays(x))
	}
	for s := range g.shifts() {
		homes := s.homes()
		if best, ok := o.best[homes]; !ok || isBetter(s, best) {
			o.best[homes] = s
		}
	}
	return o
}

// duties yields all ways to serve the homes that pay so that no one may run dry before a day, though it would without any one of the days.
func (o outlook) duties(until int) iter.Seq[duty] {
	needed := make([][]days, len(o.Homes))
	for i, x := range o.Homes {
		needed[i] = []days{{}}
		if x.Pays {
			needed[i] = o.needed(thirst{o.dry[i], until}.isEnough)
		}
	}
	return func(yield func(duty) bool) {
		var fill func(d duty, home int) bool
		fill = func(d duty, home int) bool {
			if home == len(needed) {
				return yield(d)
			}
			for _, l := range needed[home] {
				d[home] = l
				if !fill(d, home+1) {
					return false
				}
			}
			return true
		}
		fill(duty{}, 0)
	}
}

// plans yields plans that custom allows, by which no home that pays may run dry before a day. No home is served on more days than it needs: without one of them no route is more toil, and a skin is left.
func (o outlook) plans(until int) iter.Seq[course] {
	return func(yield func(course) bool) {
	duties:
		for d := range o.duties(until) {
			c := course{duty: d}
			for day := range o.Days {
				s, ok := o.best[d.on(day)]
				if !ok {
					continue duties
				}
				c = c.with(day, s)
			}
			if !yield(c) {
				return
			}
		}
	}
}

// plan returns the good plan that is before all others: false if there is none.
func (o outlook) plan() (course, bool) { return first(o.plans(o.end()), isBefore) }

// dryAt returns the Ids of the homes that pay and may run dry on a day, by plans by which none may before it. A home that may by some plan also may by one in which no home is served on more days than it needs until then.
func (o outlook) dryAt(day int) []int {
	var may [api.MaxHomes]bool
	for c := range o.plans(day) {
		for i, x := range o.Homes {
			if x.Pays && o.dry[i][c.duty[i]] == day {
				may[i] = true
			}
		}
	}
	var l []int
	for i, x := range o.Homes {
		if may[i] {
			l = append(l, x.Id)
		}
	}
	return l
}
