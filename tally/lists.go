package tally

import (
	"iter"
	"slices"

	"aguador/api"
)

// places are those that can be come to with a list, as far as it goes.
type places map[place]bool

// come puts in a place, and those to which the list can go on from there without a notch.
func (p pair) come(l places, to place) {
	if l[to] {
		return
	}
	l[to] = true
	for s := range p.best(to) {
		if slices.Contains(s.can[:], nothing) {
			p.come(l, s.to)
		}
	}
}

// begun returns the places of the empty list.
func (p pair) begun() places {
	l := places{}
	p.come(l, place{})
	return l
}

// after returns the places of a list with a notch more: none if no true list goes on so.
func (p pair) after(l places, kind int) places {
	next := places{}
	for at := range l {
		for s := range p.best(at) {
			if slices.Contains(s.can[:], kind) {
				p.come(next, s.to)
			}
		}
	}
	return next
}

// isTrue reports whether a list is a true one. What is no kind is looked for first, since after would take nothing for a notch.
func (p pair) isTrue(list []int) bool {
	if !areKinds(list...) {
		return false
	}
	l := p.begun()
	for _, kind := range list {
		l = p.after(l, kind)
		if len(l) == 0 {
			return false
		}
	}
	return l[p.end()]
}

// lists yields all true lists, in order. All places are on a way to the end, so that each list that is begun leads to a true one.
func (p pair) lists() iter.Seq[[]int] {
	return func(yield func([]int) bool) {
		var follow func(list []int, l places) bool
		follow = func(list []int, l places) bool {
			if l[p.end()] && !yield(list) {
				return false
			}
			for kind := api.NotchSkin; kind <= api.NotchPaid; kind++ {
				next := p.after(l, kind)
				if len(next) > 0 && !follow(append(slices.Clone(list), kind), next) {
					return false
				}
			}
			return true
		}
		follow(nil, p.begun())
	}
}
