package rounds_test

import (
	"slices"

	"aguador/api"
	"aguador/climb"
	"aguador/jar"
)

// path is the homes of a route in their order, and its toil, if it can be gone.
type path struct {
	ids  []int
	toil api.Toil
	ok   bool
}

// whole is a plan, its toil and its skins, and the first day on which a home that pays may run dry by it: behind the last one if none may.
type whole struct {
	plan       [][]int
	toil       api.Toil
	skins, dry int
}

// facts are what is so of rounds, by each set of homes, and of days: 1 of the first one, 2 of the second one, 4 of the third one, and so on, together.
type facts struct {
	r     api.Rounds
	paths map[[2]int]path
	dry   map[[2]int]int
}

func factsOf(r api.Rounds) facts { return facts{r, map[[2]int]path{}, map[[2]int]int{}} }

func (f facts) end() int { return f.r.From + f.r.Days }

// has reports whether a thing is in a set.
func has(set, i int) bool { return set>>i&1 == 1 }

// setOf is the set of those of which something is so.
func setOf(many int, is func(i int) bool) (set int) {
	for i := range many {
		if is(i) {
			set |= 1 << i
		}
	}
	return set
}

// orders lists all orders of some numbers, those first in which the first number that differs is less.
func orders(l []int) [][]int {
	if len(l) == 0 {
		return [][]int{nil}
	}
	var all [][]int
	for i, n := range l {
		for _, rest := range orders(slices.Delete(slices.Clone(l), i, i+1)) {
			all = append(all, append(ints(n), rest...))
		}
	}
	return all
}

func less(a, b api.Toil) bool { return a.Steps < b.Steps || a.Steps == b.Steps && a.Paces < b.Paces }

func plus(a, b api.Toil) api.Toil { return toil(a.Steps+b.Steps, a.Paces+b.Paces) }

// path finds the route of a carrier to a set of homes by all orders of their places.
func (f facts) path(carrier, set int) path {
	if x, ok := f.paths[[2]int{carrier, set}]; ok {
		return x
	}
	c := f.r.Carriers[carrier]
	var places []int
	for i, h := range f.r.Homes {
		if has(set, i) && h.Place != c.Base && !slices.Contains(places, h.Place) {
			places = append(places, h.Place)
		}
	}
	slices.Sort(places)
	var best path
	for _, l := range orders(places) {
		u, e := climb.Order(f.r.Town, c.Base, l, c.Donkey)
		if e != api.OK || best.ok && !less(u, best.toil) {
			continue
		}
		best = path{nil, u, true}
		for _, place := range append(ints(c.Base), l...) {
			for i, h := range f.r.Homes {
				if has(set, i) && h.Place == place {
					best.ids = append(best.ids, h.Id)
				}
			}
		}
	}
	f.paths[[2]int{carrier, set}] = best
	return best
}

// dryOn is the day on which a home may run dry that is served on a set of days: behind the last one if there is none.
func (f facts) dryOn(home, set int) int {
	if day, ok := f.dry[[2]int{home, set}]; ok {
		return day
	}
	var l []int
	for i := range f.r.Days {
		if has(set, i) {
			l = append(l, f.r.From+i)
		}
	}
	day, e := jar.Dry(f.r.Homes[home].Jar, l, f.r.Pints)
	if e != api.OK {
		day = f.end()
	}
	f.dry[[2]int{home, set}] = min(day, f.end())
	return min(day, f.end())
}

// broken is the first number of a day that custom forbids: the index of its home, and the rule, or 0.
func (f facts) broken(l []int) (home, rule int) {
	given := map[int]int{}
	for i, n := range l {
		at := slices.IndexFunc(f.r.Carriers, func(c api.Carrier) bool { return c.Id == n })
		given[n]++
		switch {
		case n == 0:
		case at < 0:
			return i, 1
		case !slices.Contains(f.r.Carriers[at].Homes, f.r.Homes[i].Id):
			return i, 2
		case given[n] > f.r.Carriers[at].Skins:
			return i, 3
		}
	}
	for at, c := range f.r.Carriers {
		set := setOf(len(l), func(i int) bool { return l[i] == c.Id })
		if !f.path(at, set).ok {
			for !has(set, home) {
				home++
			}
			return home, 4
		}
	}
	return 0, 0
}

// toil is that of all routes of a day.
func (f facts) toil(l []int) (u api.Toil) {
	for at, c := range f.r.Carriers {
		u = plus(u, f.path(at, setOf(len(l), func(i int) bool { return l[i] == c.Id })).toil)
	}
	return u
}

// days lists what custom allows on a day, if no home is served that does not pay.
func (f facts) days() (l [][]int) {
	all := [][]int{nil}
	for _, h := range f.r.Homes {
		var next [][]int
		for _, numbers := range all {
			next = append(next, append(slices.Clone(numbers), 0))
			for _, c := range f.r.Carriers {
				if h.Pays {
					next = append(next, append(slices.Clone(numbers), c.Id))
				}
			}
		}
		all = next
	}
	for _, numbers := range all {
		if _, rule := f.broken(numbers); rule == 0 {
			l = append(l, numbers)
		}
	}
	return l
}

// fewDays is of the days those by which, for some set of homes, the toil is least, and the first number that differs: no plan that is first has another one.
func (f facts) fewDays() (l [][]int) {
	best := map[int][]int{}
	for _, numbers := range f.days() {
		set := setOf(len(numbers), func(i int) bool { return numbers[i] != 0 })
		if old, ok := best[set]; !ok || less(f.toil(numbers), f.toil(old)) {
			best[set] = numbers
		}
	}
	for set := range 1 << len(f.r.Homes) {
		if numbers, ok := best[set]; ok {
			l = append(l, numbers)
		}
	}
	return l
}

// weigh tells all of a plan.
func (f facts) weigh(plan [][]int) whole {
	w := whole{plan: plan, dry: f.end()}
	for _, l := range plan {
		w.toil = plus(w.toil, f.toil(l))
		for _, n := range l {
			if n != 0 {
				w.skins++
			}
		}
	}
	for i, h := range f.r.Homes {
		if h.Pays {
			w.dry = min(w.dry, f.dryBy(plan, i))
		}
	}
	return w
}

// dryBy is the day on which a home may run dry by a plan.
func (f facts) dryBy(plan [][]int, home int) int {
	return f.dryOn(home, setOf(len(plan), func(day int) bool { return plan[day][home] != 0 }))
}

// plans lists all plans of which each day is one of these.
func (f facts) plans(days [][]int) (l []whole) {
	all := [][][]int{nil}
	for range f.r.Days {
		var next [][][]int
		for _, plan := range all {
			for _, numbers := range days {
				next = append(next, append(slices.Clone(plan), numbers))
			}
		}
		all = next
	}
	for _, plan := range all {
		l = append(l, f.weigh(plan))
	}
	return l
}

// before reports whether a plan is before another one.
func before(a, b whole) bool {
	if a.toil != b.toil {
		return less(a.toil, b.toil)
	}
	if a.skins != b.skins {
		return a.skins < b.skins
	}
	return slices.Compare(slices.Concat(a.plan...), slices.Concat(b.plan...)) < 0
}

// good is those of the plans by which no home that pays may run dry.
func (f facts) good(all []whole) (l []whole) {
	for _, w := range all {
		if w.dry == f.end() {
			l = append(l, w)
		}
	}
	return l
}

// best is the plan that is before all others.
func best(all []whole) whole {
	w := all[0]
	for _, x := range all[1:] {
		if before(x, w) {
			w = x
		}
	}
	return w
}

// fails is the latest day on which some home may run dry first, of all plans, and all homes that may then.
func (f facts) fails(all []whole) (day int, ids []int) {
	for _, w := range all {
		day = max(day, w.dry)
	}
	for i, h := range f.r.Homes {
		if h.Pays && slices.ContainsFunc(all, func(w whole) bool { return w.dry == day && f.dryBy(w.plan, i) == day }) {
			ids = append(ids, h.Id)
		}
	}
	return day, ids
}

// needs is all sets of days that a home needs, as lists: shorter ones first, of equally long ones that in which the first day that differs is less.
func (f facts) needs(home int) (l [][]int) {
	isEnough := func(set int) bool { return f.dryOn(home, set) == f.end() }
	for set := range 1 << f.r.Days {
		var days []int
		isIdle := false
		for i := range f.r.Days {
			if has(set, i) {
				days = append(days, f.r.From+i)
				isIdle = isIdle || isEnough(set&^(1<<i))
			}
		}
		if isEnough(set) && !isIdle {
			l = append(l, days)
		}
	}
	slices.SortFunc(l, func(a, b []int) int {
		if len(a) != len(b) {
			return len(a) - len(b)
		}
		return slices.Compare(a, b)
	})
	return l
}

// dice is a row of numbers that looks thrown, the same in each run.
type dice struct{ state uint64 }

// upTo returns a number from lo to hi.
func (d *dice) upTo(lo, hi int) int {
	d.state = d.state*6364136223846793005 + 1442695040888963407
	return lo + int(d.state>>33)%(hi-lo+1)
}

func (d *dice) one(l []int) int { return l[d.upTo(0, len(l)-1)] }

// some returns some of the numbers, in their order.
func (d *dice) some(l []int, oneOf int) (some []int) {
	for _, n := range l {
		if d.upTo(1, oneOf) == 1 {
			some = append(some, n)
		}
	}
	return some
}

// ids returns so many numbers in increasing order.
func (d *dice) ids(many int) (l []int) {
	n := 0
	for range many {
		n += d.upTo(1, 4)
		l = append(l, n)
	}
	return l
}

// town mostly has a walk between all places, with some detours.
func (d *dice) town() api.Town {
	t := api.Town{Places: d.ids(d.upTo(1, 5))}
	link := func(from, to int) {
		x := api.Link{Id: len(t.Links) + 1, From: from, To: to, Steps: d.one(ints(0, 0, 0, 10, 20, 30)), Paces: d.one(ints(10, 20, 30, 50))}
		if from != to {
			t.Links = append(t.Links, x)
		}
	}
	for i, place := range t.Places {
		if i > 0 && d.upTo(1, 12) > 1 {
			link(t.Places[d.upTo(0, i-1)], place)
		}
	}
	for range d.upTo(0, 4) {
		link(d.one(t.Places), d.one(t.Places))
	}
	return t
}

// jar is mostly one that needs to be filled up on some of the days, and that runs over if it is on others.
func (d *dice) jar(from, many int) api.Jar {
	j := api.Jar{Full: d.upTo(2, 8), Days: min(api.MaxDays, from+many+d.one(ints(0, 0, 0, 1, 2))), Week: span(0, 35)}
	use := d.upTo(0, 3)
	j.Use = span(use, use+d.one(ints(0, 0, 0, 1)))
	start := min(j.Full, max(0, j.Use.Hi*(from+d.one(ints(-1, 0, 1, 1, 2, 2, 3)))+d.upTo(0, 1)))
	j.Start = span(start, min(j.Full, start+d.one(ints(0, 0, 1))))
	for day := range j.Days {
		isBefore := day < from && d.upTo(1, 2) == 1
		if isBefore || d.upTo(1, 7) == 1 {
			j.Brings = append(j.Brings, api.Bring{Day: day, Pints: d.upTo(1, 4)})
		}
	}
	if from > 0 && d.upTo(1, 3) == 1 {
		lo := d.upTo(0, j.Full)
		j.Sights = append(j.Sights, api.Sight{Id: 3, Day: d.upTo(0, from-1), Pints: span(lo, d.upTo(lo, j.Full))})
	}
	if d.upTo(1, 5) == 1 {
		j.Week = span(0, d.upTo(0, 35))
	}
	j.May = uint8(d.upTo(1, 6) / 6)
	return j
}

// carrier has mostly all homes in the district.
func (d *dice) carrier(id int, places, homes []int) api.Carrier {
	c := carrier(id, d.one(places), d.one(ints(1, 1, 2, 2, 3, 4)), d.some(homes, 1)...)
	if d.upTo(1, 3) == 1 {
		c.Homes = d.some(homes, 2)
	}
	c.Donkey = d.upTo(1, 3) == 1
	return c
}

// sized is rounds with so many days, homes and carriers.
func (d *dice) sized(days, homes, carriers int) api.Rounds {
	r := api.Rounds{Town: d.town(), From: d.one(ints(0, 0, 0, 1, 2, 6)), Days: days, Pints: d.one(ints(1, 2, 2, 3, 4, 9))}
	ids := d.ids(homes)
	for _, id := range ids {
		h := home(id, d.one(r.Town.Places), d.jar(r.From, days))
		h.Pays = d.upTo(1, 6) > 1
		r.Homes = append(r.Homes, h)
	}
	for _, id := range d.ids(carriers) {
		r.Carriers = append(r.Carriers, d.carrier(id, r.Town.Places, ids))
	}
	return r
}

// rounds are so small that all plans can be listed.
func (d *dice) rounds() api.Rounds {
	for {
		days, homes, carriers := d.upTo(1, 4), d.upTo(0, 4), d.upTo(0, 3)
		many := 1
		for range days * homes {
			many *= carriers + 1
		}
		if many <= 5000 && (many > 1 || d.upTo(1, 6) == 1) {
			return d.sized(days, homes, carriers)
		}
	}
}
