package queue

import (
	"iter"
	"slices"

	"aguador/api"
)

// split is two comers, and how many orders are left at most once it is known which of them fills first.
type split struct {
	pair [2]int
	left int
}

// inOrder returns two comers as they fill in an order.
func inOrder(order []int, pair [2]int) [2]int {
	if slices.Index(order, pair[0]) < slices.Index(order, pair[1]) {
		return pair
	}
	return [2]int{pair[1], pair[0]}
}

// agreed returns in how many orders two comers fill as the pair tells.
func agreed(orders [][]int, pair [2]int) int {
	many := 0
	for _, order := range orders {
		if inOrder(order, pair) == pair {
			many++
		}
	}
	return many
}

// splits returns what is left for each pair of comers, in the order of their Ids.
func (f fountain) splits(orders [][]int) []split {
	var l []split
	for i := range len(f.Comers) {
		for j := i + 1; j < len(f.Comers); j++ {
			pair := [2]int{f.Comers[i].Id, f.Comers[j].Id}
			many := agreed(orders, pair)
			l = append(l, split{pair, max(many, len(orders)-many)})
		}
	}
	return l
}

// patient returns the fountain at which nobody waits longer than so many minutes.
func (f fountain) patient(longest int) fountain {
	f.Dawn = copied(f.Dawn)
	for _, c := range f.Comers {
		f.Notes = append(f.Notes, api.Begun{Comer: c.Id, At: span(c.Come, c.Come+longest)})
	}
	return f
}

// coming returns the fountain to which one of the comers comes at another minute.
func (f fountain) coming(i, minute int) fountain {
	f.Dawn = copied(f.Dawn)
	f.Comers[i].Come = minute
	return f
}

// isDone reports whether there is a truth, and a comer has ended by a minute in each one.
func (f fountain) isDone(id, minute int) bool {
	x := f.ends(id)
	return x != nothing() && x.Hi <= minute
}

// without returns the fountain without the notes of these Numbers, in memory of its own.
func (f fountain) without(numbers ...int) fountain {
	f.Dawn = copied(f.Dawn)
	f.Notes = slices.DeleteFunc(f.Notes, func(x api.Begun) bool { return slices.Contains(numbers, x.Number) })
	return f
}

// copied returns a dawn that shares no memory with another one.
func copied(d api.Dawn) api.Dawn {
	d.Ranks = slices.Clone(d.Ranks)
	d.Comers = slices.Clone(d.Comers)
	d.Notes = slices.Clone(d.Notes)
	return d
}

// lists yields all lists of so many Numbers of notes, in order.
func (f fountain) lists(many int) iter.Seq[[]int] {
	return func(yield func([]int) bool) {
		var choose func(l []int, from int) bool
		choose = func(l []int, from int) bool {
			if len(l) == many {
				return yield(l)
			}
			for i := from; i < len(f.Notes); i++ {
				if !choose(append(slices.Clone(l), f.Notes[i].Number), i+1) {
					return false
				}
			}
			return true
		}
		choose(nil, 0)
	}
}

// struck returns the first list of so many notes without which there is a truth.
func (f fountain) struck(many int) ([]int, bool) {
next:
	for l := range f.lists(many) {
		rest := f.without(l...)
		for _, a := range rest.Notes {
			for _, b := range rest.Notes {
				// Two notes of one comer that share no minute need no search.
				if a.Comer == b.Comer && a.At.Hi < b.At.Lo {
					continue next
				}
			}
		}
		if rest.can() {
			return l, true
		}
	}
	return nil, false
}
