package town_test

import (
	"cmp"
	"maps"
	"slices"

	"aguador/api"
)

// isTrue is the definition of a true reading, without a division.
func isTrue(s api.Spring, x api.Reading, pints int) bool {
	return pints > 0 && 3600*x.Bucket >= pints*x.Songs.Lo*s.Song.Lo && 3600*x.Bucket <= pints*x.Songs.Hi*s.Song.Hi
}

// agrees reports whether the last week of what a spring gives contradicts nothing.
func agrees(s api.Spring, rain int, l []int) bool {
	week := len(l) - 1
	pints := l[week]
	if week > 0 && (pints > l[week-1] || pints < l[week-1]-s.Fall) {
		return false
	}
	for _, x := range s.Book {
		if x.Week == week && x.Rain.Lo <= rain && rain <= x.Rain.Hi && (pints < x.Gives.Lo || pints > x.Gives.Hi) {
			return false
		}
	}
	for _, x := range s.Readings {
		if x.Week == week && !isTrue(s, x, pints) {
			return false
		}
	}
	return true
}

// facts lists what a spring gives week by week in its truths, each list once.
func facts(s api.Spring) [][]int {
	var all [][]int
	var follow func(rain int, l []int)
	follow = func(rain int, l []int) {
		if len(l) == s.Weeks {
			all = append(all, l)
			return
		}
		for pints := range s.Most + 1 {
			if m := append(slices.Clone(l), pints); agrees(s, rain, m) {
				follow(rain, m)
			}
		}
	}
	for rain := s.Winter.Lo; rain <= s.Winter.Hi; rain++ {
		follow(rain, nil)
	}
	slices.SortFunc(all, slices.Compare)
	return slices.CompactFunc(all, slices.Equal)
}

// products lists all rows with one thing of each list.
func products[T any](lists [][]T) [][]T {
	all := [][]T{nil}
	for _, l := range lists {
		var more [][]T
		for _, row := range all {
			for _, x := range l {
				more = append(more, append(slices.Clone(row), x))
			}
		}
		all = more
	}
	return all
}

// numbers lists those of a span.
func numbers(x api.Span) (l []int) {
	for n := x.Lo; n <= x.Hi; n++ {
		l = append(l, n)
	}
	return l
}

// truth is what all fountains give, week by week, and what all streets need.
type truth struct {
	water [][]int
	needs []int
}

// in is what all fountains give in a week.
func (x truth) in(week int) (l []int) {
	for _, weeks := range x.water {
		l = append(l, weeks[week])
	}
	return l
}

// truths lists all truths of a supply.
func truths(s api.Supply) (all []truth) {
	var springs [][][]int
	for _, x := range s.Founts {
		springs = append(springs, facts(x.Spring))
	}
	var needs [][]int
	for _, x := range s.Streets {
		needs = append(needs, numbers(x.Need))
	}
	rows := products(needs)
	for _, water := range products(springs) {
		for _, row := range rows {
			all = append(all, truth{water, row})
		}
	}
	return all
}

// ends is what the fountains give in a week, all as little as in any truth, or all as much.
func ends(s api.Supply, week int, best bool) (l []int) {
	for _, x := range s.Founts {
		var given []int
		for _, weeks := range facts(x.Spring) {
			given = append(given, weeks[week])
		}
		if best {
			l = append(l, slices.Max(given))
		} else {
			l = append(l, slices.Min(given))
		}
	}
	return l
}

// weeksOf is how many weeks all springs have.
func weeksOf(s api.Supply) int {
	n := s.Founts[0].Spring.Weeks
	for _, x := range s.Founts {
		n = min(n, x.Spring.Weeks)
	}
	return n
}

// drawn tries all ways to draw a sharing, the ones with more pints at first: the first one that can be is what Pulls has to return.
func drawn(s api.Supply, water, shares []int) ([]api.Pull, bool) {
	var follow func(street, draw, left int, l []api.Pull) ([]api.Pull, bool)
	follow = func(at, draw, left int, l []api.Pull) ([]api.Pull, bool) {
		if at == len(s.Streets) {
			return l, true
		}
		x := s.Streets[at]
		if draw == len(x.Draws) {
			next := 0
			if at+1 < len(shares) {
				next = shares[at+1]
			}
			if left > 0 {
				return nil, false
			}
			return follow(at+1, 0, next, l)
		}
		id := x.Draws[draw]
		i := slices.IndexFunc(s.Founts, func(y api.Fount) bool { return y.Id == id })
		for n := min(left, water[i]); n >= 0; n-- {
			m := l
			if n > 0 {
				m = append(slices.Clone(l), pull(x.Id, id, n))
			}
			water[i] -= n
			all, ok := follow(at, draw+1, left-n, m)
			water[i] += n
			if ok {
				return all, true
			}
		}
		return nil, false
	}
	water = slices.Clone(water)
	if len(shares) == 0 {
		return nil, true
	}
	return follow(0, 0, shares[0], nil)
}

// canDraw reports whether a sharing can be, with all ways tried.
func canDraw(s api.Supply, water, shares []int) bool {
	_, ok := drawn(s, water, shares)
	return ok
}

// table is who draws how much from where, by indices; another street can be sent to another fountain to make room.
type table struct {
	draws [][]int
	water []int
	holds [][]int
}

func tableOf(s api.Supply, water []int) *table {
	x := &table{water: slices.Clone(water)}
	for _, y := range s.Streets {
		var l []int
		for _, id := range y.Draws {
			l = append(l, slices.IndexFunc(s.Founts, func(z api.Fount) bool { return z.Id == id }))
		}
		x.draws = append(x.draws, l)
		x.holds = append(x.holds, make([]int, len(water)))
	}
	return x
}

// pint gives a street one more pint, if that can be.
func (x *table) pint(at int, tried map[int]bool) bool {
	for _, i := range x.draws[at] {
		if tried[i] {
			continue
		}
		tried[i] = true
		if x.water[i] > 0 {
			x.water[i]--
			x.holds[at][i]++
			return true
		}
		for other := range x.holds {
			if x.holds[other][i] > 0 && x.pint(other, tried) {
				x.holds[other][i]--
				x.holds[at][i]++
				return true
			}
		}
	}
	return false
}

// gets is the most pints that the streets can get together, none more than it needs, pint by pint.
func gets(s api.Supply, water, needs []int) (n int) {
	x := tableOf(s, water)
	for at, need := range needs {
		for range need {
			if x.pint(at, map[int]bool{}) {
				n++
			}
		}
	}
	return n
}

// canGet reports whether a sharing can be, pint by pint.
func canGet(s api.Supply, water, shares []int) bool { return gets(s, water, shares) == sumOf(shares) }

func sumOf(l []int) (n int) {
	for _, k := range l {
		n += k
	}
	return n
}

// known is what is known of something that is so in some of the cases.
func known(cases []bool) uint8 {
	switch {
	case !slices.Contains(cases, false):
		return api.KnownYes
	case !slices.Contains(cases, true):
		return api.KnownNo
	}
	return api.KnownOpen
}

// provers is what Proof has to return, by all lists of streets.
func provers(s api.Supply, water, needs []int) (best []int) {
	var follow func(at int, l []int)
	follow = func(at int, l []int) {
		if at < len(s.Streets) {
			follow(at+1, append(slices.Clone(l), at))
			follow(at+1, l)
			return
		}
		need, have, ids := 0, 0, ints()
		for _, i := range l {
			need += needs[i]
			ids = append(ids, s.Streets[i].Id)
		}
		for i, y := range s.Founts {
			if slices.ContainsFunc(l, func(k int) bool { return slices.Contains(s.Streets[k].Draws, y.Id) }) {
				have += water[i]
			}
		}
		if need > have && (best == nil || cmp.Or(cmp.Compare(len(ids), len(best)), slices.Compare(ids, best)) < 0) {
			best = ids
		}
	}
	follow(0, nil)
	return best
}

// fairOf is the fair sharing: of the streets that need more, those with fewer pints first, the first one gets a pint more that can be given it.
func fairOf(s api.Supply, give func(shares []int, at int) bool) []int {
	shares := leastsOf(s)
	for {
		var order []int
		for i := range shares {
			order = append(order, i)
		}
		slices.SortStableFunc(order, func(i, k int) int { return cmp.Compare(shares[i], shares[k]) })
		i := slices.IndexFunc(order, func(at int) bool { return shares[at] < s.Streets[at].Need.Hi && give(shares, at) })
		if i < 0 {
			return shares
		}
		shares[order[i]]++
	}
}

// isFairer reports whether one sharing is fairer than another one.
func isFairer(a, b []int) bool {
	return slices.Compare(slices.Sorted(slices.Values(a)), slices.Sorted(slices.Values(b))) > 0
}

// sharings lists all sharings by which each street gets a number of Least to the Hi of its Need.
func sharings(s api.Supply) [][]int {
	var l [][]int
	for _, x := range s.Streets {
		l = append(l, numbers(span(x.Least, x.Need.Hi)))
	}
	return products(l)
}

// needsOf is what the streets need, all as much as they can, or all as little.
func needsOf(s api.Supply, best bool) (l []int) {
	for _, x := range s.Streets {
		if best {
			l = append(l, x.Need.Lo)
		} else {
			l = append(l, x.Need.Hi)
		}
	}
	return l
}

func leastsOf(s api.Supply) (l []int) {
	for _, x := range s.Streets {
		l = append(l, x.Least)
	}
	return l
}

// with is what the fountains give if one of them gives more.
func with(water []int, at, more int) []int {
	water = slices.Clone(water)
	water[at] += more
	return water
}

// dice is a row of numbers that looks thrown, the same in each run.
type dice struct{ state uint64 }

// upTo returns a number from lo to hi.
func (d *dice) upTo(lo, hi int) int {
	d.state = d.state*6364136223846793005 + 1442695040888963407
	return lo + int(d.state>>33)%(hi-lo+1)
}

func (d *dice) one(l []int) int { return l[d.upTo(0, len(l)-1)] }

// span returns one within two numbers, not wider than a third one.
func (d *dice) span(lo, hi, wide int) api.Span {
	a := d.upTo(lo, hi)
	return span(a, min(hi, a+d.upTo(0, wide)))
}

// ids returns so many Ids, in increasing order.
func (d *dice) ids(many int) []int {
	l := map[int]bool{}
	for len(l) < many {
		l[d.one(ints(1, 2, 3, 4, 5, 6, 7, 70, 800, 9998, 9999))] = true
	}
	return slices.Sorted(maps.Keys(l))
}

// spring is a small one with a truth, so that all its truths can be listed.
func (d *dice) spring() api.Spring {
	s := api.Spring{Weeks: d.upTo(1, 4), Most: d.upTo(0, 4), Fall: d.upTo(0, 3), Winter: d.span(0, 3, 2), Song: span(60, 60)}
	for range d.upTo(0, 2) {
		s.Book = append(s.Book, api.Line{Rain: d.span(0, 3, 2), Week: d.upTo(0, s.Weeks-1), Gives: d.span(0, s.Most, 2)})
	}
	if s.Most > 0 {
		for i := range d.upTo(0, 2) {
			songs := 60 / d.upTo(1, s.Most)
			s.Readings = append(s.Readings, api.Reading{Number: i + 1, Week: d.upTo(0, s.Weeks-1), Bucket: 1, Songs: span(max(0, songs-d.upTo(0, 30)), min(99, songs+d.upTo(0, 30)))})
		}
	}
	if len(facts(s)) == 0 {
		return d.spring()
	}
	return s
}

// streets draw from fountains of a supply; they need no more than is said, each one a number of a span that is no wider than is said.
func (d *dice) streets(s api.Supply, many, most, wide int) (l []api.Street) {
	for _, id := range d.ids(many) {
		x := api.Street{Id: id, Need: d.span(0, most, wide)}
		x.Least = d.one(ints(0, 0, x.Need.Lo, d.upTo(0, x.Need.Lo)))
		for _, y := range s.Founts {
			if d.upTo(0, 2) > 0 {
				x.Draws = append(x.Draws, y.Id)
			}
		}
		l = append(l, x)
	}
	return l
}

// small is a supply of which all truths, all sharings and all ways to draw can be listed.
func (d *dice) small() api.Supply {
	var s api.Supply
	for _, id := range d.ids(d.upTo(1, 3)) {
		s.Founts = append(s.Founts, api.Fount{Id: id, Spring: d.spring()})
	}
	s.Streets = d.streets(s, d.upTo(0, 3), 4, 2)
	if len(truths(s)) > 2000 {
		return d.small()
	}
	return s
}

// great is a supply with numbers of all sizes, with what its fountains give, week by week.
func (d *dice) great() (api.Supply, [][]api.Span) {
	var s api.Supply
	var all [][]api.Span
	most := d.one(ints(10, 30, 100))
	weeks := d.upTo(1, 4)
	for _, id := range d.ids(d.upTo(1, 4)) {
		x := d.span(0, most, most/2)
		l := []api.Span{x}
		for range weeks - 1 {
			x = span(d.upTo(x.Lo/2, x.Lo), d.upTo(max(x.Lo, x.Hi*3/4), x.Hi))
			l = append(l, x)
		}
		s.Founts = append(s.Founts, gives(id, l...))
		all = append(all, l)
	}
	s.Streets = d.streets(s, d.upTo(0, 5), most, most/2)
	return s, all
}
