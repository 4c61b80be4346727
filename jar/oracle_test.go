package jar_test

import (
	"maps"
	"slices"

	"aguador/api"
)

// truth is what can be so: what the jar holds at first, from which day on the house is gone, and what it wants on each day.
type truth struct {
	start, gone int
	wants       []int
}

// ended is what became of a day: what is left at its end, what ran over, what was taken, and whether the jar ran dry.
type ended struct {
	left, over, taken int
	isDry             bool
}

// pass goes through the days of a truth pint by pint, with so many pints more on some days.
func pass(j api.Jar, x truth, more map[int]int) []ended {
	var l []ended
	held := x.start
	for day := range j.Days {
		var d ended
		pour := func(pints int) {
			for range pints {
				if held == j.Full {
					d.over++
				} else {
					held++
				}
			}
		}
		for _, b := range j.Brings {
			if b.Day == day {
				pour(b.Pints)
			}
		}
		pour(more[day])
		for range x.wants[day] {
			if held == 0 {
				d.isDry = true
			} else {
				held--
				d.taken++
			}
		}
		d.left = held
		l = append(l, d)
	}
	return l
}

// rows lists all choices of what is wanted on so many days.
func rows(use api.Span, days int) [][]int {
	if days == 0 {
		return [][]int{nil}
	}
	var all [][]int
	for _, l := range rows(use, days-1) {
		for n := use.Lo; n <= use.Hi; n++ {
			all = append(all, append(slices.Clone(l), n))
		}
	}
	return all
}

// sum is what is wanted in a week, on the days of it that the jar has.
func (x truth) sum(week int) (n int) {
	for day, wants := range x.wants {
		if day/7 == week {
			n += wants
		}
	}
	return n
}

// isAllowed reports whether what is wanted in each week is as the jar says it.
func (x truth) isAllowed(j api.Jar) bool {
	for week := range 2 {
		if x.sum(week) > j.Week.Hi {
			return false
		}
		if x.gone >= 7*week+7 && x.sum(week) < j.Week.Lo {
			return false
		}
	}
	return true
}

// isSeen reports whether all sights are true.
func (x truth) isSeen(j api.Jar) bool {
	l := pass(j, x, nil)
	return !slices.ContainsFunc(j.Sights, func(s api.Sight) bool {
		return l[s.Day].left < s.Pints.Lo || l[s.Day].left > s.Pints.Hi
	})
}

// truths lists all truths of a jar, sights not regarded.
func truths(j api.Jar) []truth {
	var all []truth
	for gone := range j.Days + 1 {
		if gone < j.Days && j.May == api.KnownNo {
			continue
		}
		for _, l := range rows(j.Use, gone) {
			for start := j.Start.Lo; start <= j.Start.Hi; start++ {
				x := truth{start, gone, append(slices.Clone(l), make([]int, j.Days-gone)...)}
				if x.isAllowed(j) {
					all = append(all, x)
				}
			}
		}
	}
	return all
}

// trueOnes is the truths in which all sights are true.
func trueOnes(j api.Jar, all []truth) (l []truth) {
	for _, x := range all {
		if x.isSeen(j) {
			l = append(l, x)
		}
	}
	return l
}

// numbersOf is all numbers that truths tell, in increasing order, each once.
func numbersOf(all []truth, tells func(x truth) int) []int {
	l := map[int]bool{}
	for _, x := range all {
		l[tells(x)] = true
	}
	return slices.Sorted(maps.Keys(l))
}

// spanOf is the least and the greatest number that truths tell, of which there is one at least.
func spanOf(all []truth, tells func(x truth) int) api.Span {
	l := numbersOf(all, tells)
	return span(l[0], l[len(l)-1])
}

// dryDay is the first day on which the jar runs dry in a truth: behind the last one if it does on none.
func dryDay(j api.Jar, x truth, more map[int]int) int {
	i := slices.IndexFunc(pass(j, x, more), func(d ended) bool { return d.isDry })
	if i < 0 {
		return j.Days
	}
	return i
}

// dryIn is the days on which the jar runs dry first, in all truths.
func dryIn(j api.Jar, all []truth, pints int, days ...int) api.Span {
	more := map[int]int{}
	for _, day := range days {
		more[day] += pints
	}
	return spanOf(all, func(x truth) int { return dryDay(j, x, more) })
}

// isSafe reports whether the jar runs dry in no truth.
func isSafe(j api.Jar, all []truth, pints int, days ...int) bool {
	return dryIn(j, all, pints, days...).Lo == j.Days
}

// laterDays is all days behind those of all sights.
func laterDays(j api.Jar) (l []int) {
	for day := range j.Days {
		if !slices.ContainsFunc(j.Sights, func(x api.Sight) bool { return x.Day >= day }) {
			l = append(l, day)
		}
	}
	return l
}

// short is all lists of at most two of the numbers, shorter ones first, those of one length in order.
func short(l []int) [][]int {
	all := [][]int{nil}
	for _, n := range l {
		all = append(all, ints(n))
	}
	for i, n := range l {
		for _, m := range l[i+1:] {
			all = append(all, ints(n, m))
		}
	}
	return all
}

// fewestOf is what Fewest has to return, by all lists of days.
func fewestOf(j api.Jar, all []truth, pints int) ([]int, api.Errno) {
	later := laterDays(j)
	for _, l := range short(later) {
		if isSafe(j, all, pints, l...) {
			return l, api.OK
		}
	}
	if isSafe(j, all, pints, later...) {
		return nil, api.ErrMany
	}
	return nil, api.ErrNone
}

// idleOf is what Idle has to return, by all truths.
func idleOf(j api.Jar, all []truth) (l []int, e api.Errno) {
	if !isSafe(j, all, 0) {
		return nil, api.ErrNone
	}
	later := laterDays(j)
	for i, x := range j.Brings {
		less := got(j, slices.Delete(slices.Clone(j.Brings), i, i+1)...)
		if slices.Contains(later, x.Day) && isSafe(less, all, 0) {
			l = append(l, i)
		}
	}
	return l, api.OK
}

// falseOnes is what Wrong has to return, by all lists of sights.
func falseOnes(j api.Jar, all []truth) ([]int, api.Errno) {
	if len(all) == 0 {
		return nil, api.ErrNone
	}
	var ids []int
	for _, x := range j.Sights {
		ids = append(ids, x.Id)
	}
	for _, l := range short(ids) {
		isFalse := func(x api.Sight) bool { return slices.Contains(l, x.Id) }
		if len(trueOnes(seen(j, slices.DeleteFunc(slices.Clone(j.Sights), isFalse)...), all)) > 0 {
			return l, api.OK
		}
	}
	return nil, api.ErrMany
}

// dice is a row of numbers that looks thrown, the same in each run.
type dice struct{ state uint64 }

// upTo returns a number from lo to hi.
func (d *dice) upTo(lo, hi int) int {
	d.state = d.state*6364136223846793005 + 1442695040888963407
	return lo + int(d.state>>33)%(hi-lo+1)
}

func (d *dice) one(l []int) int { return l[d.upTo(0, len(l)-1)] }

// span returns one within two numbers, mostly not wider than a third one.
func (d *dice) span(lo, hi, wide int) api.Span {
	a := d.upTo(lo, hi)
	return span(a, min(hi, a+d.upTo(0, wide)))
}

// jar is a small one, so that all its truths can be listed.
func (d *dice) jar(sights int) api.Jar {
	j := api.Jar{Full: d.upTo(1, 9), Days: d.one(ints(1, 2, 3, 3, 4, 4, 5, 6, 7, 7, 8, 9, 10)), May: uint8(d.upTo(0, 1))}
	j.Start = d.span(0, j.Full, 3)
	j.Use = d.span(0, 3, min(3, 12/j.Days))
	j.Week = d.week(j)
	for day := range j.Days {
		for d.upTo(0, 2) == 0 && len(j.Brings) < api.MaxBrings {
			j.Brings = append(j.Brings, bring(day, d.one(ints(1, 1, 2, 2, 3, 4, 5, 12))))
		}
	}
	j.Sights = d.sights(j, d.upTo(0, sights))
	return j
}

// week is mostly wide, or near to what the house wants on seven days.
func (d *dice) week(j api.Jar) api.Span {
	switch most := min(j.Days, 7) * j.Use.Hi; d.upTo(0, 3) {
	case 0:
		return span(0, 35)
	case 1:
		return d.span(0, 35, 35)
	case 2:
		return d.span(0, most, 4)
	default:
		return span(d.upTo(0, most), 35)
	}
}

// sights are mostly about what can be in the jar.
func (d *dice) sights(j api.Jar, many int) (l []api.Sight) {
	some := truth{start: d.upTo(j.Start.Lo, j.Start.Hi)}
	for range j.Days {
		some.wants = append(some.wants, d.upTo(j.Use.Lo, j.Use.Hi))
	}
	days := pass(j, some, nil)
	for i := range many {
		day := min(d.upTo(0, j.Days-1), d.upTo(0, j.Days-1))
		lo := max(0, min(j.Full, days[day].left+d.one(ints(-2, -1, -1, 0, 0, 0, 0, 1, 2))))
		l = append(l, sight(3*i+d.upTo(1, 3), day, lo, min(j.Full, lo+d.upTo(0, 2))))
	}
	return l
}
