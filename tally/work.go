package tally

import (
	"iter"
	"math"
	"slices"

	"aguador/api"
)

// nothing stands where a list has no notch.
const nothing = 0

// place is how many notches of the stock, and how many of the foil, lie before it.
type place [2]int

// step goes from a place on to another one: the edit that it takes, none if the notches agree, and what a true list can have there, the notch of the stock or that of the foil.
type step struct {
	to   place
	edit api.Edit
	can  [2]int
}

// pair is a tally at work: it is valid, and it tells how many notches behind a place are false, at least.
type pair struct {
	api.Tally
	falseBehind func(at place) int
}

func paired(x api.Tally) pair {
	p := pair{Tally: x}
	p.falseBehind = keeping(p.end(), func(at place, behind func(at place) int) int {
		return around(p.steps(at), func(s step) api.Span {
			n := s.falseNotches() + behind(s.to)
			return span(n, n)
		}).Lo
	})
	return p
}

// keeping returns a closure that tells something of a place, and keeps what it told, since many ways lead to the same place. Of the end it tells a zero value; tell says the rest, and can ask of places behind.
func keeping[T any](end place, tell func(at place, behind func(at place) T) T) func(at place) T {
	var zero T
	told := map[place]T{end: zero}
	var ask func(at place) T
	ask = func(at place) T {
		x, ok := told[at]
		if !ok {
			x = tell(at, ask)
			told[at] = x
		}
		return x
	}
	return ask
}

// around returns the least and the greatest number of some things, of which there is one at least.
func around[T any](all iter.Seq[T], reach func(x T) api.Span) api.Span {
	x := span(math.MaxInt, math.MinInt)
	for t := range all {
		r := reach(t)
		x = span(min(x.Lo, r.Lo), max(x.Hi, r.Hi))
	}
	return x
}

func (p pair) end() place { return place{len(p.Stock), len(p.Foil)} }

// notchAt returns the notch at an index, and nothing behind the last one.
func notchAt(l []int, at int) int {
	if at == len(l) {
		return nothing
	}
	return l[at]
}

// steps yields the steps from a place, in the order in which edits are chosen.
func (p pair) steps(at place) iter.Seq[step] {
	stock, foil := notchAt(p.Stock, at[0]), notchAt(p.Foil, at[1])
	turn := api.Edit{Kind: api.EditTurn, At: at[1], Notch: foil}
	if stock == foil {
		turn = api.Edit{}
	}
	all := [...]step{
		{place{at[0] + 1, at[1] + 1}, turn, [2]int{stock, foil}},
		{place{at[0] + 1, at[1]}, api.Edit{Kind: api.EditCut, At: at[1]}, [2]int{stock, nothing}},
		{place{at[0], at[1] + 1}, api.Edit{Kind: api.EditAdd, At: at[1], Notch: foil}, [2]int{nothing, foil}},
	}
	end := p.end()
	return func(yield func(step) bool) {
		for _, s := range all {
			if s.to[0] <= end[0] && s.to[1] <= end[1] && !yield(s) {
				return
			}
		}
	}
}

func (s step) falseNotches() int {
	if s.edit == (api.Edit{}) {
		return 0
	}
	return 1
}

// falseNotches returns how many notches are false between the stock and the foil.
func (p pair) falseNotches() int { return p.falseBehind(place{}) }

// best yields those steps from a place with which no more is false than must be.
func (p pair) best(at place) iter.Seq[step] {
	return func(yield func(step) bool) {
		for s := range p.steps(at) {
			if s.falseNotches()+p.falseBehind(s.to) == p.falseBehind(at) && !yield(s) {
				return
			}
		}
	}
}

// edits returns those by which the stock becomes the foil.
func (p pair) edits() []api.Edit {
	var l []api.Edit
	for at := (place{}); at != p.end(); {
		s := slices.Collect(p.best(at))[0]
		if s.falseNotches() > 0 {
			l = append(l, s.edit)
		}
		at = s.to
	}
	return l
}

// comesTo returns what a true list comes to, at least and at most, if each notch is worth so much, and nothing is worth 0.
func (p pair) comesTo(worth func(kind int) int) api.Span {
	return keeping(p.end(), func(at place, behind func(at place) api.Span) api.Span {
		return around(p.best(at), func(s step) api.Span {
			a, b, rest := worth(s.can[0]), worth(s.can[1]), behind(s.to)
			return span(rest.Lo+min(a, b), rest.Hi+max(a, b))
		})
	})(place{})
}

// prices is what notches cost.
type prices api.Rates

// worth returns what a notch adds to what is owed.
func (r prices) worth(kind int) int {
	switch kind {
	case api.NotchSkin:
		return r.Skin
	case api.NotchHalf:
		return r.Half
	case api.NotchBarrel:
		return r.Barrel
	case api.NotchPaid:
		return -r.Paid
	}
	return 0
}

// wanted is a kind of notch that is counted.
type wanted int

func (k wanted) counts(kind int) int {
	if kind == int(k) {
		return 1
	}
	return 0
}

// split returns both pieces of the tally, the stock and the foil cut before an index.
func (p pair) split(at, foil int) [2]api.Tally {
	front, back := p.Tally, p.Tally
	front.Stock, back.Stock = slices.Clone(p.Stock[:at]), slices.Clone(p.Stock[at:])
	front.Foil, back.Foil = slices.Clone(p.Foil[:foil]), slices.Clone(p.Foil[foil:])
	return [2]api.Tally{front, back}
}

// where returns the least index of the foil at which it can be cut so that no more is false. If there is none before, it is the end of the foil: somewhere the cut must do.
func (p pair) where(at int) int {
cuts:
	for foil := range len(p.Foil) {
		left := p.falseNotches()
		for _, piece := range p.split(at, foil) {
			left -= paired(piece).falseNotches()
			if left < 0 {
				continue cuts
			}
		}
		return foil
	}
	return len(p.Foil)
}
