package spring

import (
	"iter"
	"slices"

	"aguador/api"
)

// hour is how many seconds the pints that a spring gives an hour take.
const hour = 3600

// work is a spring at work, which is valid.
type work struct{ api.Spring }

// bounds is what a rain leaves: what the spring can give in each of its weeks. A rain that cannot be leaves a week of which the Lo is above the Hi.
type bounds [api.MaxWeeks]api.Span

// choice is a week of which it could be learned what it gives, and how much this leaves at most.
type choice struct{ week, left int }

// truth is one in which all weeks give as little as they can after its rain, or all give as much as they can.
type truth struct {
	rain, sum int
	gives     []int
}

func least(x api.Span) int { return x.Lo }

func most(x api.Span) int { return x.Hi }

// both returns the numbers that two spans share.
func both(a, b api.Span) api.Span { return span(max(a.Lo, b.Lo), min(a.Hi, b.Hi)) }

// around returns the least span that holds two others.
func around(a, b api.Span) api.Span { return span(min(a.Lo, b.Lo), max(a.Hi, b.Hi)) }

func dividedUp(n, by int) int { return (n + by - 1) / by }

// first returns the first thing by an order; of several, the one that stands first.
func first[T any](l []T, before func(a, b T) bool) T {
	var best T
	for i, x := range l {
		if i == 0 || before(x, best) {
			best = x
		}
	}
	return best
}

// told returns what the spring may give by a reading alone. No reading is true of a spring that gives nothing, so that Lo is at least 1.
func (w work) told(x api.Reading) api.Span {
	seconds := hour * x.Bucket
	gives := span(dividedUp(seconds, x.Songs.Hi*w.Song.Hi), w.Most)
	if shortest := x.Songs.Lo * w.Song.Lo; shortest > 0 {
		gives.Hi = min(gives.Hi, seconds/shortest)
	}
	return gives
}

// narrow takes out of each week what its neighbours rule out. A week is bound to its neighbours alone, so that once forwards and once backwards is enough; then each number that is left comes about, and the least numbers of all weeks come about together, and so do the greatest ones.
func (w work) narrow(l bounds) bounds {
	for i := range w.Weeks - 1 {
		l[i+1] = both(l[i+1], span(l[i].Lo-w.Fall, l[i].Hi))
	}
	for i := range w.Weeks - 1 {
		week := w.Weeks - 1 - i
		l[week-1] = both(l[week-1], span(l[week].Lo, l[week].Hi+w.Fall))
	}
	return l
}

func (w work) leaves(rain int) bounds {
	var l bounds
	for week := range w.Weeks {
		l[week] = span(0, w.Most)
	}
	for _, x := range w.Book {
		if within(x.Rain, rain) {
			l[x.Week] = both(l[x.Week], x.Gives)
		}
	}
	for _, x := range w.Readings {
		l[x.Week] = both(l[x.Week], w.told(x))
	}
	return w.narrow(l)
}

// rains yields each amount of rain of some truth, in increasing order, with what it leaves.
func (w work) rains() iter.Seq2[int, bounds] {
	return func(yield func(int, bounds) bool) {
	next:
		for rain := w.Winter.Lo; rain <= w.Winter.Hi; rain++ {
			l := w.leaves(rain)
			for week := range w.Weeks {
				if l[week].Lo > l[week].Hi {
					continue next
				}
			}
			if !yield(rain, l) {
				return
			}
		}
	}
}

func (w work) can() bool {
	for range w.rains() {
		return true
	}
	return false
}

// gives returns what the spring gives in a week, in all truths, of which there is one at least.
func (w work) gives(week int) api.Span {
	x := span(w.Most, 0)
	for _, l := range w.rains() {
		x = around(x, l[week])
	}
	return x
}

// truths returns for each rain the truth at one end of what it leaves.
func (w work) truths(end func(api.Span) int) []truth {
	var all []truth
	for rain, l := range w.rains() {
		t := truth{rain: rain}
		for week := range w.Weeks {
			pints := end(l[week])
			t.gives = append(t.gives, pints)
			t.sum += pints
		}
		all = append(all, t)
	}
	return all
}

// allBounds returns what the rains leave; what several of them leave is told once.
func (w work) allBounds() []bounds {
	var all []bounds
	for _, l := range w.rains() {
		if !slices.Contains(all, l) {
			all = append(all, l)
		}
	}
	return all
}

// open returns how much the spans of all weeks leave together once it is known what a week gives: nothing if it never gives that.
func (w work) open(all []bounds, week, pints int) int {
	var known bounds
	found := false
	for _, l := range all {
		if !within(l[week], pints) {
			continue
		}
		l[week] = span(pints, pints)
		l = w.narrow(l)
		if !found {
			known, found = l, true
		}
		for i := range w.Weeks {
			known[i] = around(known[i], l[i])
		}
	}
	sum := 0
	for i := range w.Weeks {
		sum += known[i].Hi - known[i].Lo
	}
	return sum
}

// choices returns for each week how much is left at most, whatever it gives.
func (w work) choices() []choice {
	all := w.allBounds()
	var l []choice
	for week := range w.Weeks {
		c := choice{week: week}
		for pints := range w.Most + 1 {
			c.left = max(c.left, w.open(all, week, pints))
		}
		l = append(l, c)
	}
	return l
}

// without returns the spring without the readings of these Numbers, in memory of its own.
func (w work) without(numbers ...int) work {
	kept := map[int]bool{}
	for _, x := range w.Readings {
		kept[x.Number] = true
	}
	for _, n := range numbers {
		delete(kept, n)
	}
	some := copied(w.Spring)
	some.Readings = slices.DeleteFunc(some.Readings, func(x api.Reading) bool { return !kept[x.Number] })
	return work{some}
}

// copied returns a spring that shares no memory with another one.
func copied(s api.Spring) api.Spring {
	s.Book = slices.Clone(s.Book)
	s.Readings = slices.Clone(s.Readings)
	return s
}
