package floor

import (
	"slices"

	"aguador/api"
)

// pair is two floors by their Ids, the one with the lesser Id first.
type pair [2]int

// house is floors at work: they are valid, and it is known what each one is owed.
type house struct {
	api.Floors
	owed map[int]int
}

func housed(f api.Floors) house { return house{f, owed(f)} }

// among returns the house as if it had some of its floors only; these are owed what they are owed of all.
func (h house) among(some []int) house {
	h.Ids = some
	return h
}

// inOrder returns a number of each floor.
func (h house) inOrder(numbers map[int]int) []int {
	var l []int
	for _, id := range h.Ids {
		l = append(l, numbers[id])
	}
	return l
}

// shares returns what each floor with a stake bears of a bill.
func shares(x api.Bill) map[int]int {
	parts := 0
	for _, s := range x.Stakes {
		parts += s.Parts
	}
	bears := map[int]int{}
	left := x.Pence
	for _, s := range x.Stakes {
		bears[s.Floor] = x.Pence * s.Parts / parts
		left -= bears[s.Floor]
	}
	// Each stake was rounded down by less than a penny, so that fewer pence are left than there are stakes.
	for i := range left {
		bears[x.Stakes[i].Floor]++
	}
	return bears
}

// owed returns what each floor is owed.
func owed(f api.Floors) map[int]int {
	l := map[int]int{}
	for _, x := range f.Bills {
		l[x.Payer] += x.Pence
		for id, pence := range shares(x) {
			l[id] -= pence
		}
	}
	for _, x := range f.Paid {
		l[x.From] += x.Pence
		l[x.To] -= x.Pence
	}
	return l
}

// speak reports whether the floors of a pair speak with each other.
func (h house) speak(p pair) bool {
	return !slices.ContainsFunc(h.Quarrels, func(x api.Quarrel) bool { return p == pair{x.A, x.B} })
}

// cannotPay reports whether a payment cannot be made.
func (h house) cannotPay(x api.Payment) bool {
	return !validPayment(h.Floors, x) || !h.speak(between(x))
}

// between returns the pair of floors of a payment.
func between(x api.Payment) pair { return pair{min(x.From, x.To), max(x.From, x.To)} }

func pairsOf(l []api.Payment) []pair {
	var all []pair
	for _, x := range l {
		all = append(all, between(x))
	}
	return all
}

// pairs returns the pairs of floors that speak with each other.
func pairs(ids []int, speak func(p pair) bool) []pair {
	var l []pair
	for b := range len(ids) {
		for a := range b {
			if p := (pair{ids[a], ids[b]}); speak(p) {
				l = append(l, p)
			}
		}
	}
	return l
}

// across returns the other floor of a pair; false if the one is not of it.
func (p pair) across(id int) (int, bool) {
	switch id {
	case p[0]:
		return p[1], true
	case p[1]:
		return p[0], true
	}
	return 0, false
}

// groups returns the groups of floors that pairs connect, each in increasing order, in the order of their first Ids.
func groups(ids []int, l []pair) [][]int {
	var all [][]int
	reached := map[int]bool{}
	for _, id := range ids {
		if reached[id] {
			continue
		}
		reached[id] = true
		group := []int{id}
		for i := 0; i < len(group); i++ {
			for _, p := range l {
				if to, ok := p.across(group[i]); ok && !reached[to] {
					reached[to] = true
					group = append(group, to)
				}
			}
		}
		slices.Sort(group)
		all = append(all, group)
	}
	return all
}
