package town

import (
	"cmp"
	"iter"
	"slices"

	"aguador/api"
)

// some is a choice of streets, or of fountains, by their indices.
type some uint

func (x some) has(at int) bool { return x>>at&1 == 1 }

func (x some) with(at int) some { return x | 1<<at }

// set is some streets, the fountains from which any of them can draw, what they need, and what there is for them.
type set struct {
	streets, founts some
	need, have      int
}

// lacks returns how much more the streets need than there is for them.
func (x set) lacks() int { return x.need - x.have }

// ids returns the Ids of the streets, in increasing order.
func (x set) ids(streets []api.Street) (l []int) {
	for i, street := range streets {
		if x.streets.has(i) {
			l = append(l, street.Id)
		}
	}
	return l
}

// sets yields all sets of streets, each of which is to get its share.
func (f flow) sets(shares []int) iter.Seq[set] {
	return func(yield func(set) bool) {
		for streets := range some(1) << len(f.Streets) {
			x := set{streets: streets}
			for i, pints := range shares {
				if streets.has(i) {
					x.need += pints
					x.founts |= f.draws[i]
				}
			}
			for i, pints := range f.water {
				if x.founts.has(i) {
					x.have += pints
				}
			}
			if !yield(x) {
				return
			}
		}
	}
}

// proofs yields the sets of streets that prove that a sharing cannot be. If it cannot be there is one: the streets that get too little, with all that draw from where they could.
func (f flow) proofs(shares []int) iter.Seq[set] {
	return func(yield func(set) bool) {
	next:
		for x := range f.sets(shares) {
			if x.lacks() <= 0 {
				continue next
			}
			if !yield(x) {
				return
			}
		}
	}
}

// can reports whether a sharing can be.
func (f flow) can(shares []int) bool {
	for range f.proofs(shares) {
		return false
	}
	return true
}

// fewest returns the streets of the proof that is before all others: false if there is none.
func (f flow) fewest() ([]int, bool) {
	isBefore := func(a, b set) bool {
		l, m := a.ids(f.Streets), b.ids(f.Streets)
		return cmp.Or(cmp.Compare(len(l), len(m)), slices.Compare(l, m)) < 0
	}
	x, ok := first(f.proofs(f.needs), isBefore)
	return x.ids(f.Streets), ok
}

// lack returns how many pints of what they need the streets cannot get together: as many as the set lacks that lacks most.
func (f flow) lack() int {
	most := 0
	for x := range f.proofs(f.needs) {
		most = max(most, x.lacks())
	}
	return most
}

// most returns how many pints the streets can get together.
func (f flow) most() int { return sum(f.needs) - f.lack() }

// helps reports whether the streets get more with a pint more of a fountain.
func (f flow) helps(fount int) bool {
	more := f
	more.water = slices.Clone(f.water)
	more.water[fount]++
	return more.lack() < f.lack()
}

// more returns how many pints more of a fountain are enough: false if no number is, because some prove a lack who cannot draw from it.
func (f flow) more(fount int) (int, bool) {
	for x := range f.proofs(f.needs) {
		if !x.founts.has(fount) {
			return 0, false
		}
	}
	return f.lack(), true
}
