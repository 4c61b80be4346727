package queue

import (
	"cmp"
	"iter"
	"slices"

	"aguador/api"
)

// fountain is one at work: its dawn is valid.
type fountain struct{ api.Dawn }

// start is who fills next, and from which minute on; nobody if all have filled.
type start struct {
	comer  api.Comer
	minute int
}

// branch is how the order of some truth can begin: who has filled, and at which minutes the fountain can be free then, each with what follows.
type branch struct {
	filled []api.Comer
	free   map[int]start
}

// first returns the first thing by an order; of several, the one that stands first.
func first[T any](l []T, before func(a, b T) bool) T {
	var best T
	for i, x := range l {
		if i == 0 || before(x, best) {
			best = x
		}
	}
	return best
}

// takes returns for how many minutes a comer can fill.
func (f fountain) takes(c api.Comer) api.Span {
	return span(c.Skins*f.Fill.Lo, c.Skins*f.Fill.Hi)
}

// frees yields the minutes at which the fountain can be free after a comer began at one of some minutes. These are in increasing order, so that each minute is yielded once though many beginnings lead to it.
func (f fountain) frees(c api.Comer, begins []int) iter.Seq[int] {
	takes := f.takes(c)
	return func(yield func(int) bool) {
		from := 0
		for _, begin := range begins {
			for minute := max(from, begin+takes.Lo); minute <= begin+takes.Hi; minute++ {
				if !yield(minute) {
					return
				}
				from = minute + 1
			}
		}
	}
}

// agrees reports whether what follows is as it was noted.
func (f fountain) agrees(next start) bool {
	for _, x := range f.Notes {
		if x.Comer == next.comer.Id && !within(x.At, next.minute) {
			return false
		}
	}
	return true
}

// grown returns the branch with those minutes of some after which no note is contradicted at once.
func (f fountain) grown(filled []api.Comer, minutes iter.Seq[int]) branch {
	b := branch{filled, map[int]start{}}
	for minute := range minutes {
		if next := (pause{f, filled, minute}).next(); f.agrees(next) {
			b.free[minute] = next
		}
	}
	return b
}

// begins returns at which minutes a comer can begin next, in increasing order.
func (b branch) begins(c api.Comer) []int {
	var l []int
	for _, next := range b.free {
		if next.comer == c {
			l = append(l, next.minute)
		}
	}
	slices.Sort(l)
	return l
}

// prune takes those minutes out at which a comer follows, whenever it ends, without leading to a truth.
func (f fountain) prune(b branch, c api.Comer, then branch) {
	takes := f.takes(c)
	for minute, next := range b.free {
		if next.comer != c {
			continue
		}
		leads := false
		for end := next.minute + takes.Lo; end <= next.minute+takes.Hi && !leads; end++ {
			_, leads = then.free[end]
		}
		if !leads {
			delete(b.free, minute)
		}
	}
}

// branches yields how the orders of all truths can begin. The longer ones come before those with which they begin, so that only minutes are left by then that lead to a truth; whole orders come in order.
func (f fountain) branches() iter.Seq[branch] {
	return func(yield func(branch) bool) {
		var follow func(b branch) bool
		follow = func(b branch) bool {
			for i := range len(f.Comers) {
				c := f.Comers[i]
				begins := b.begins(c)
				if len(begins) == 0 {
					continue
				}
				then := f.grown(append(slices.Clone(b.filled), c), f.frees(c, begins))
				if !follow(then) {
					return false
				}
				f.prune(b, c, then)
			}
			return len(b.free) == 0 || yield(b)
		}
		follow(f.grown(nil, slices.Values([]int{f.Open})))
	}
}

func (f fountain) can() bool {
	for range f.branches() {
		return true
	}
	return false
}

// isLast reports whether a comer is the last one that has filled.
func (b branch) isLast(id int) bool {
	return len(b.filled) > 0 && b.filled[len(b.filled)-1].Id == id
}

// ids returns who has filled.
func (b branch) ids() []int {
	var l []int
	for _, c := range b.filled {
		l = append(l, c.Id)
	}
	return l
}

// orders returns the orders of all truths, in order.
func (f fountain) orders() [][]int {
	var all [][]int
	for b := range f.branches() {
		if len(b.filled) == len(f.Comers) {
			all = append(all, b.ids())
		}
	}
	return all
}

// nothing is the span before any number was told.
func nothing() api.Span { return span(1, 0) }

// widened returns the least span that holds a number more.
func widened(x api.Span, n int) api.Span {
	if x == nothing() {
		return span(n, n)
	}
	return span(min(x.Lo, n), max(x.Hi, n))
}

// told returns from the least to the greatest number that some part of a truth tells.
func (f fountain) told(tells func(b branch, minute int, next start) (int, bool)) api.Span {
	x := nothing()
	for b := range f.branches() {
		for minute, next := range b.free {
			if n, ok := tells(b, minute, next); ok {
				x = widened(x, n)
			}
		}
	}
	return x
}

func (f fountain) ends(id int) api.Span {
	return f.told(func(b branch, minute int, _ start) (int, bool) { return minute, b.isLast(id) })
}

// closes returns for each number of comers when the last one of so many has ended.
func (f fountain) closes() []api.Span {
	l := slices.Repeat([]api.Span{nothing()}, len(f.Comers)+1)
	for b := range f.branches() {
		for minute := range b.free {
			many := len(b.filled)
			l[many] = widened(l[many], minute)
		}
	}
	return l
}

// pause is the fountain when it is free, at a minute, after some comers have filled.
type pause struct {
	fountain
	filled []api.Comer
	minute int
}

func (p pause) waits(c api.Comer) bool { return c.Come <= p.minute && p.isToCome(c) }

// isToCome reports whether a comer has not filled yet, whether it waits or not.
func (p pause) isToCome(c api.Comer) bool { return !slices.Contains(p.filled, c) }

// turn returns when a guild filled last: 0 if it has not, otherwise the more, the later.
func (p pause) turn(guild int) int {
	for i := len(p.filled); i > 0; i-- {
		if p.filled[i-1].Guild == guild {
			return i
		}
	}
	return 0
}

// before reports whether of two who wait the first one is before the other, by custom.
func (p pause) before(a, b api.Comer) bool {
	return cmp.Or(
		cmp.Compare(p.Ranks[a.Guild-1], p.Ranks[b.Guild-1]),
		cmp.Compare(p.turn(a.Guild), p.turn(b.Guild)),
		cmp.Compare(a.Guild, b.Guild),
		cmp.Compare(a.Come, b.Come),
		cmp.Compare(a.Id, b.Id)) < 0
}

// those returns the comers of whom something is so.
func (p pause) those(are func(api.Comer) bool) []api.Comer {
	var l []api.Comer
	for _, c := range p.Comers {
		if are(c) {
			l = append(l, c)
		}
	}
	return l
}

// next returns who fills next: at once if somebody waits, otherwise when the next one comes.
func (p pause) next() start {
	left := p.those(p.isToCome)
	if len(left) == 0 {
		return start{}
	}
	soonest := first(left, func(a, b api.Comer) bool { return a.Come < b.Come })
	p.minute = max(p.minute, soonest.Come)
	return start{first(p.those(p.waits), p.before), p.minute}
}
