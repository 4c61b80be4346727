package town

import (
	"maps"
	"slices"

	"aguador/api"
)

// fair returns the fair sharing by what can be: false if each street's Least cannot.
func (w well) fair(can func(shares []int) bool) ([]int, bool) {
	shares := w.leasts()
	if !can(shares) {
		return nil, false
	}
	open := map[int]bool{}
	for i := range w.Streets {
		open[i] = true
	}
	give := func(i int) {
		shares[i]++
		// What was given is never taken back, so that a street that can get no more now never can again.
		if shares[i] > w.Streets[i].Need.Hi || !can(shares) {
			shares[i]--
			delete(open, i)
		}
	}
	isPoorer := func(a, b int) bool { return shares[a] < shares[b] }
	for len(open) > 0 {
		poorest, _ := first(slices.Values(slices.Sorted(maps.Keys(open))), isPoorer)
		give(poorest)
	}
	return shares, true
}

// pulls returns how a sharing that can be is drawn. It takes what is drawn out of what the fountains give, so that the flow is not to be used again.
func (f flow) pulls(shares []int) []api.Pull {
	shares = slices.Clone(shares)
	var l []api.Pull
	for i, street := range f.Streets {
		for _, id := range street.Draws {
			none := api.Pull{Street: street.Id, Fount: id}
			x := none
			x.Pints = f.pull(shares, i, fountAt(f.Supply, id))
			if x != none {
				l = append(l, x)
			}
		}
	}
	return l
}

// pull draws as many pints of a fountain for a street as can be. For the rest of its share no pint more can be drawn of the same fountain: it would have been drawn now.
func (f flow) pull(shares []int, street, fount int) int {
	pints := min(shares[street], f.water[fount])
	shares[street] -= pints
	f.water[fount] -= pints
	// With none drawn all is as before, when the sharing could be, so that this ends.
	for !f.can(shares) {
		pints--
		shares[street]++
		f.water[fount]++
	}
	return pints
}
