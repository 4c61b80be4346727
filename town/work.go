package town

import (
	"iter"

	"aguador/api"
	"aguador/spring"
)

// well is a supply at work, which is valid.
type well struct{ api.Supply }

// flow is a well in a week, at worst or at best: what each fountain gives, what each street needs, and from which fountains it can draw.
type flow struct {
	well
	water, needs []int
	draws        []some
}

// sides is what is so at worst, and what is so at best.
type sides [2]bool

func lo(x api.Span) int { return x.Lo }

func hi(x api.Span) int { return x.Hi }

func sum(numbers []int) (n int) {
	for _, k := range numbers {
		n += k
	}
	return n
}

func (w well) weeks() int {
	n := api.MaxWeeks
	for _, x := range w.Founts {
		n = min(n, x.Spring.Weeks)
	}
	return n
}

// hasTruth reports whether there is a truth: springs do not know of each other, so that one of each is enough.
func (w well) hasTruth() bool {
	for _, x := range w.Founts {
		if ok, _ := spring.Can(x.Spring); !ok {
			return false
		}
	}
	return true
}

// at returns the week at worst, or at best. No spring and no street knows of another one, so that all ends come about together.
func (w well) at(week int, best bool) flow {
	gives, needs := lo, hi
	if best {
		gives, needs = hi, lo
	}
	f := flow{well: w}
	for _, x := range w.Founts {
		// The supply is valid and has a truth, and the week is one of it: there is no error.
		pints, _ := spring.Gives(x.Spring, week)
		f.water = append(f.water, gives(pints))
	}
	for _, x := range w.Streets {
		f.needs = append(f.needs, needs(x.Need))
		f.draws = append(f.draws, w.drawsOf(x))
	}
	return f
}

func (w well) drawsOf(x api.Street) (founts some) {
	for _, id := range x.Draws {
		founts = founts.with(fountAt(w.Supply, id))
	}
	return founts
}

// leasts returns the Least of each street.
func (w well) leasts() (l []int) {
	for _, x := range w.Streets {
		l = append(l, x.Least)
	}
	return l
}

// known tells of something that is so at best wherever it is so at worst.
func (w well) known(week int, is func(f flow) bool) uint8 {
	x := sides{is(w.at(week, false)), is(w.at(week, true))}
	switch {
	case x == sides{true, true}:
		return api.KnownYes
	case x == sides{false, false}:
		return api.KnownNo
	}
	return api.KnownOpen
}

func (f flow) isEnough() bool { return f.can(f.needs) }

func (f flow) isLeast() bool { return f.can(f.leasts()) }

// first returns the first thing by an order, of several the one that stands first: false if there is none.
func first[T any](all iter.Seq[T], before func(a, b T) bool) (T, bool) {
	var best T
	found := false
	for x := range all {
		if !found || before(x, best) {
			best, found = x, true
		}
	}
	return best, found
}
