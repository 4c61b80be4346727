package floor_test

import (
	"cmp"
	"math/bits"
	"slices"
	"sort"

	"aguador/api"
)

// sharesOf is what all floors bear of a bill: the greatest number of pence that is no more than its part, and what is left one by one.
func sharesOf(f api.Floors, x api.Bill) []int {
	all, left := 0, x.Pence
	parts := make([]int, len(f.Ids))
	for _, s := range x.Stakes {
		parts[slices.Index(f.Ids, s.Floor)] = s.Parts
		all += s.Parts
	}
	l := make([]int, len(f.Ids))
	for i, n := range parts {
		l[i] = sort.Search(x.Pence+1, func(k int) bool { return k*all > x.Pence*n }) - 1
		left -= l[i]
	}
	for i := 0; left > 0; i++ {
		if parts[i] > 0 {
			l[i]++
			left--
		}
	}
	return l
}

// netOf is what all floors are owed.
func netOf(f api.Floors) []int {
	l := make([]int, len(f.Ids))
	for i, id := range f.Ids {
		for _, x := range f.Bills {
			if x.Payer == id {
				l[i] += x.Pence
			}
			l[i] -= sharesOf(f, x)[i]
		}
		for _, x := range f.Paid {
			if x.From == id {
				l[i] += x.Pence
			}
			if x.To == id {
				l[i] -= x.Pence
			}
		}
	}
	return l
}

// way is from a floor to another one that speaks with it, by their indices.
type way struct{ from, to int }

// town is what is known of floors for the tests: what each is owed, and who can pay whom, in order.
type town struct {
	ids, net []int
	ways     []way
	speak    [6]uint // for each floor, those that speak with it
}

func townOf(f api.Floors) town {
	x := town{ids: f.Ids, net: netOf(f)}
	for i, a := range f.Ids {
		for k, b := range f.Ids {
			if i != k && !slices.Contains(f.Quarrels, quarrel(min(a, b), max(a, b))) {
				x.ways = append(x.ways, way{i, k})
				x.speak[i] |= 1 << k
			}
		}
	}
	return x
}

// open is how many floors are not owed 0.
func open(net []int) (n int) {
	for _, pence := range net {
		if pence != 0 {
			n++
		}
	}
	return n
}

// allOf is all lists of so many payments that settle, each with at most so many pence: whatever can be paid is tried.
func (x town) allOf(many, most int) (all [][]api.Payment) {
	net := slices.Clone(x.net)
	var try func(l []api.Payment, at int)
	try = func(l []api.Payment, at int) {
		left := many - len(l)
		if left == 0 && open(net) == 0 {
			all = append(all, slices.Clone(l))
		}
		if left == 0 || open(net) > 2*left {
			return
		}
		for i := at; i < len(x.ways); i++ {
			w := x.ways[i]
			for pence := 1; pence <= most; pence++ {
				net[w.from] += pence
				net[w.to] -= pence
				try(append(l, pay(x.ids[w.from], x.ids[w.to], pence)), i+1)
				net[w.from] -= pence
				net[w.to] += pence
			}
		}
	}
	try(nil, 0)
	return all
}

// shortest is all lists of the fewest payments, if so many pence a payment are enough.
func (x town) shortest(most int) [][]api.Payment {
	for many := 0; ; many++ {
		if all := x.allOf(many, most); len(all) > 0 {
			return all
		}
	}
}

// pennies is how many pence change hands at least, for all that floors can be owed up to some pence: penny after penny is paid.
func (x town) pennies(most int) map[[6]int]int {
	told := map[[6]int]int{{}: 0}
	for next := [][6]int{{}}; len(next) > 0; {
		net := next[0]
		next = next[1:]
		for _, w := range x.ways {
			y := net
			y[w.from]--
			y[w.to]++
			if _, ok := told[y]; !ok && y[w.from] >= -most && y[w.to] <= most {
				told[y] = told[net] + 1
				next = append(next, y)
			}
		}
	}
	return told
}

func (x town) key() (k [6]int) {
	copy(k[:], x.net)
	return k
}

// side is the floors to which pairs lead from one, by bits.
func side(from int, pairs []way) uint {
	l := uint(1) << from
	for range pairs {
		for _, p := range pairs {
			if both := uint(1)<<p.from | 1<<p.to; l&both != 0 {
				l |= both
			}
		}
	}
	return l
}

// sum is what the floors of a set are owed.
func (x town) sum(set uint) (n int) {
	for i, pence := range x.net {
		if set>>i&1 == 1 {
			n += pence
		}
	}
	return n
}

// paidBy is the list of payments between pairs of floors that form no ring: what is paid between two is what those on one side of them are owed. It is false if they form one, if nothing is paid between two, or if it does not settle.
func (x town) paidBy(pairs []way) (l []api.Payment, ok bool) {
	for i := range x.net {
		if x.sum(side(i, pairs)) != 0 {
			return nil, false
		}
	}
	for i, p := range pairs {
		rest := slices.Concat(pairs[:i], pairs[i+1:])
		pence := x.sum(side(p.to, rest))
		switch {
		case side(p.to, rest)>>p.from&1 == 1 || pence == 0:
			return nil, false
		case pence > 0:
			l = append(l, pay(x.ids[p.from], x.ids[p.to], pence))
		default:
			l = append(l, pay(x.ids[p.to], x.ids[p.from], -pence))
		}
	}
	slices.SortFunc(l, byNumbers)
	return l, true
}

// byPairs is all lists of so many payments that settle, of which no pairs form a ring.
func (x town) byPairs(many int) (all [][]api.Payment) {
	var once []way
	for _, w := range x.ways {
		if w.from < w.to {
			once = append(once, w)
		}
	}
	for set := range uint(1) << len(once) {
		if bits.OnesCount(set) != many {
			continue
		}
		var pairs []way
		for i, w := range once {
			if set>>i&1 == 1 {
				pairs = append(pairs, w)
			}
		}
		if l, ok := x.paidBy(pairs); ok {
			all = append(all, l)
		}
	}
	return all
}

// isAlone reports whether some floors, by bits, can settle alone: those that can pass on something to each other are owed 0 together.
func (x town) isAlone(set uint) bool {
	var ways []way
	for _, w := range x.ways {
		if set>>w.from&1 == 1 && set>>w.to&1 == 1 {
			ways = append(ways, w)
		}
	}
	for i := range x.net {
		if set>>i&1 == 1 && x.sum(side(i, ways)) != 0 {
			return false
		}
	}
	return true
}

// isOne reports whether all floors of a set can pass on something to each other.
func (x town) isOne(set uint) bool {
	reached := set & -set
	for range x.net {
		for i := range x.net {
			if reached>>i&1 == 1 {
				reached |= x.speak[i] & set
			}
		}
	}
	return reached == set
}

// groupsIn is the most groups into which a set of floors falls, each of which settles among itself: -1 if it does not.
func (x town) groupsIn(set uint) int {
	if set == 0 {
		return 0
	}
	most, least := -1, set&-set
	for group := set; group > 0; group = (group - 1) & set {
		if group&least == 0 || x.sum(group) != 0 || !x.isOne(group) {
			continue
		}
		if n := x.groupsIn(set &^ group); n >= 0 {
			most = max(most, n+1)
		}
	}
	return most
}

func (x town) all() uint { return 1<<len(x.net) - 1 }

// priced is what is owed if a penny is worth more or less from floor to floor, by one at most where they speak. Whoever passes it on wins one at most: so as much must change hands, and by the best of all prices no more needs to.
func (x town) priced() int {
	best := 0
	price := make([]int, len(x.net))
	var try func(i, sum int)
	try = func(i, sum int) {
		if i == len(price) {
			best = max(best, sum)
			return
		}
		for price[i] = range len(price) {
			fits := true
			for k := range i {
				if x.speak[i]>>k&1 == 1 && max(price[i]-price[k], price[k]-price[i]) > 1 {
					fits = false
				}
			}
			if fits {
				try(i+1, sum+price[i]*x.net[i])
			}
		}
	}
	try(0, 0)
	return best
}

func pence(l []api.Payment) (n int) {
	for _, x := range l {
		n += x.Pence
	}
	return n
}

func byNumbers(a, b api.Payment) int {
	return cmp.Or(cmp.Compare(a.From, b.From), cmp.Compare(a.To, b.To), cmp.Compare(a.Pence, b.Pence))
}

// foremost is the list that is before all others.
func foremost(all [][]api.Payment) []api.Payment {
	return slices.MinFunc(all, func(a, b []api.Payment) int {
		return cmp.Or(cmp.Compare(pence(a), pence(b)), slices.CompareFunc(a, b, byNumbers))
	})
}

// inAll is the payments that are in each list.
func inAll(all [][]api.Payment) (l []api.Payment) {
	for _, x := range all[0] {
		if !slices.ContainsFunc(all, func(l []api.Payment) bool { return !slices.Contains(l, x) }) {
			l = append(l, x)
		}
	}
	return l
}

// groupsOf is the groups that a list of payments connects.
func groupsOf(ids []int, l []api.Payment) (all [][]int) {
	for _, id := range ids {
		all = append(all, ints(id))
	}
	for _, x := range l {
		isOf := func(id int) func([]int) bool {
			return func(group []int) bool { return slices.Contains(group, id) }
		}
		i, k := slices.IndexFunc(all, isOf(x.From)), slices.IndexFunc(all, isOf(x.To))
		if i == k {
			continue
		}
		all[min(i, k)] = slices.Sorted(slices.Values(slices.Concat(all[i], all[k])))
		all = slices.Delete(all, max(i, k), max(i, k)+1)
	}
	return all
}

// dice is a row of numbers that looks thrown, the same in each run.
type dice struct{ state uint64 }

// upTo returns a number from lo to hi.
func (d *dice) upTo(lo, hi int) int {
	d.state = d.state*6364136223846793005 + 1442695040888963407
	return lo + int(d.state>>33)%(hi-lo+1)
}

func (d *dice) one(l []int) int { return l[d.upTo(0, len(l)-1)] }

// rising is so many numbers in increasing order, no one twice.
func (d *dice) rising(many, most int) []int {
	var l []int
	for len(l) < many {
		if n := d.upTo(1, most); !slices.Contains(l, n) {
			l = append(l, n)
		}
	}
	slices.Sort(l)
	return l
}

// quarrelling is floors of which so many in a hundred pairs do not speak.
func (d *dice) quarrelling(f api.Floors, of100 int) api.Floors {
	f.Quarrels = nil
	for i, a := range f.Ids {
		for _, b := range f.Ids[i+1:] {
			if d.upTo(1, 100) <= of100 {
				f.Quarrels = append(f.Quarrels, quarrel(a, b))
			}
		}
	}
	return f
}

// poor is floors that are owed a few pence each, so that there are many groups.
func (d *dice) poor(floors, most int) api.Floors {
	var l []int
	for range floors {
		l = append(l, d.upTo(-most, most))
	}
	return owed(d.rising(floors, d.one(ints(8, 9999))), l...)
}

// rich is floors with all that there can be.
func (d *dice) rich(floors int) api.Floors {
	f := api.Floors{Ids: d.rising(floors, api.MaxId)}
	most := d.one(ints(9, 200, api.MaxPence))
	for _, number := range d.rising(d.upTo(0, api.MaxBills), api.MaxId) {
		x := bill(number, d.one(f.Ids), d.upTo(1, most))
		for _, id := range f.Ids {
			if d.upTo(0, 1) == 0 || id == f.Ids[floors-1] && len(x.Stakes) == 0 {
				x.Stakes = append(x.Stakes, api.Stake{Floor: id, Parts: d.upTo(1, api.MaxParts)})
			}
		}
		f.Bills = append(f.Bills, x)
	}
	for range d.upTo(0, api.MaxPaid) {
		if a, b := d.one(f.Ids), d.one(f.Ids); a != b {
			f.Paid = append(f.Paid, pay(a, b, d.upTo(1, most)))
		}
	}
	return f
}

// floors is up to six floors of either kind.
func (d *dice) floors() api.Floors {
	quarrels := d.one(ints(0, 20, 40, 60))
	if d.upTo(0, 2) > 0 {
		return d.quarrelling(d.poor(d.one(ints(0, 1, 2, 3, 4, 5, 5, 6, 6, 6)), d.one(ints(1, 2, 5))), quarrels)
	}
	return d.quarrelling(d.rich(d.one(ints(1, 2, 3, 4, 5, 6, 6, 6))), quarrels)
}
