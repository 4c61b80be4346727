package rounds

import (
	"maps"
	"slices"

	"aguador/api"
	"aguador/climb"
	"aguador/jar"
)

// guild is rounds at work: they are valid, and the routes that were found are kept.
type guild struct {
	api.Rounds
	found map[trip]route
}

// load is some of the homes, by their indices.
type load [api.MaxHomes]bool

// trip is a carrier, by its Id, that goes to some homes.
type trip struct {
	carrier int
	homes   load
}

// route is the Ids of homes in the order in which a carrier goes to them, its toil, and whether it can be gone.
type route struct {
	homes []int
	toil  api.Toil
	canBe bool
}

// days is some of the days, by their indices.
type days [api.MaxRounds]bool

// The rules of custom: what each number of a plan must be, or must not do.
const (
	ruleNone = iota
	ruleCarrier
	ruleDistrict
	ruleSkins
	ruleRoute
)

func sum(a, b api.Toil) api.Toil { return api.Toil{Steps: a.Steps + b.Steps, Paces: a.Paces + b.Paces} }

// homesOf returns the homes of some Ids.
func (g guild) homesOf(ids ...int) []api.Home {
	var l []api.Home
	for _, id := range ids {
		l = append(l, g.Homes[homeAt(g.Rounds, id)])
	}
	return l
}

// loadOf returns some homes by their Ids.
func (g guild) loadOf(ids ...int) load {
	var l load
	for _, id := range ids {
		l[homeAt(g.Rounds, id)] = true
	}
	return l
}

// servedBy returns the homes whose number on a day is a carrier's Id.
func servedBy(carrier int, numbers []int) load {
	var l load
	for i, n := range numbers {
		l[i] = n == carrier
	}
	return l
}

// route returns the route of a carrier to some homes.
func (g guild) route(c api.Carrier, homes load) route {
	key := trip{c.Id, homes}
	x, ok := g.found[key]
	if !ok {
		x = g.find(c, homes)
		g.found[key] = x
	}
	return x
}

// find returns a route that was not found before.
func (g guild) find(c api.Carrier, homes load) route {
	left := map[int]int{}
	for i, x := range g.Homes {
		if homes[i] {
			left[i] = x.Place
		}
	}
	var gone []int
	serve := func(place int) {
		for i, x := range g.Homes {
			if at, ok := left[i]; ok && at == place {
				gone = append(gone, x.Id)
				delete(left, i)
			}
		}
	}
	// Base is no stop of a round, and homes there are gone to before all others.
	serve(c.Base)
	stops := slices.Compact(slices.Sorted(maps.Values(left)))
	order, toil, e := climb.Round(g.Town, c.Base, stops, c.Donkey)
	if e != api.OK {
		return route{}
	}
	for _, place := range order {
		serve(place)
	}
	return route{gone, toil, true}
}

// forbids returns the first number of a day that custom forbids, by the index of its home, and the rule: ruleNone if it allows all.
func (g guild) forbids(numbers []int) (home, rule int) {
	for i, n := range numbers {
		if rule := g.rule(numbers[:i], n); rule != ruleNone {
			return i, rule
		}
	}
	for _, c := range g.Carriers {
		if !g.route(c, servedBy(c.Id, numbers)).canBe {
			return slices.Index(numbers, c.Id), ruleRoute
		}
	}
	return 0, ruleNone
}

// rule returns which of the first three rules a number breaks that stands behind others.
func (g guild) rule(others []int, n int) int {
	if n == 0 {
		return ruleNone
	}
	i := carrierAt(g.Rounds, n)
	if i < 0 {
		return ruleCarrier
	}
	c := g.Carriers[i]
	if !slices.Contains(c.Homes, g.Homes[len(others)].Id) {
		return ruleDistrict
	}
	if count(others, n) >= c.Skins {
		return ruleSkins
	}
	return ruleNone
}

// count returns how many of the numbers are n.
func count(numbers []int, n int) int {
	many := 0
	for _, x := range numbers {
		if x == n {
			many++
		}
	}
	return many
}

// breaks returns the first day of a plan on which custom forbids a number, by its index, with the home's index and the rule.
func (g guild) breaks(plan [][]int) (day, home, rule int) {
	for day, numbers := range plan {
		if home, rule := g.forbids(numbers); rule != ruleNone {
			return day, home, rule
		}
	}
	return 0, 0, ruleNone
}

// allows reports whether custom allows a plan.
func (g guild) allows(plan [][]int) bool {
	_, _, rule := g.breaks(plan)
	return rule == ruleNone
}

// toil returns that of all routes of some days.
func (g guild) toil(plan ...[]int) api.Toil {
	var t api.Toil
	for _, numbers := range plan {
		for _, c := range g.Carriers {
			t = sum(t, g.route(c, servedBy(c.Id, numbers)).toil)
		}
	}
	return t
}

// served returns the days of a plan on which a home is served.
func served(plan [][]int, home int) days {
	var l days
	for day, numbers := range plan {
		l[day] = numbers[home] != 0
	}
	return l
}

// listOf returns some days by their numbers.
func (g guild) listOf(numbers ...int) days {
	var l days
	for _, n := range numbers {
		l[n-g.From] = true
	}
	return l
}

// told returns days by their numbers.
func (g guild) told(l days) []int {
	var numbers []int
	for day := range g.Days {
		if l[day] {
			numbers = append(numbers, g.From+day)
		}
	}
	return numbers
}

// end is the day behind the last one.
func (g guild) end() int { return g.From + g.Days }

// dryOn returns the day on which a home may run dry that is served on some days: end, if there is none.
func (g guild) dryOn(x api.Home, l days) int {
	day, e := jar.Dry(x.Jar, g.told(l), g.Pints)
	if e != api.OK {
		return g.end()
	}
	return min(day, g.end())
}

// firstDry returns the home that pays which may run dry first, by a plan, and the day: 0 and 0 if none may.
func (g guild) firstDry(plan [][]int) (home, day int) {
	earliest := g.end()
	for i, x := range g.Homes {
		if n := g.dryOn(x, served(plan, i)); x.Pays && n < earliest {
			home, day, earliest = x.Id, n, n
		}
	}
	return home, day
}

// without returns rounds without a carrier.
func without(r api.Rounds, carrier int) api.Rounds {
	r = copied(r)
	i := carrierAt(r, carrier)
	r.Carriers = slices.Delete(r.Carriers, i, i+1)
	return r
}

// copied returns rounds that share no memory with others.
func copied(r api.Rounds) api.Rounds {
	r.Town.Places = slices.Clone(r.Town.Places)
	r.Town.Links = slices.Clone(r.Town.Links)
	r.Homes = slices.Clone(r.Homes)
	for i := range r.Homes {
		j := &r.Homes[i].Jar
		j.Sights, j.Brings = slices.Clone(j.Sights), slices.Clone(j.Brings)
	}
	r.Carriers = slices.Clone(r.Carriers)
	for i := range r.Carriers {
		c := &r.Carriers[i]
		c.Homes = slices.Clone(c.Homes)
	}
	return r
}
