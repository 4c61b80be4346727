package mix_test

import (
	"maps"
	"slices"

	"aguador/api"
)

// batch is drops that were filled together and then went the same way: the acts that moved them, and the vessel to which they brought them (0: they are gone).
type batch struct {
	fountain, vessel, drops int
	way                     []int
}

// history is what can have happened, whichever drops went: what there was at each time.
type history [][]batch

// amount is how many drops of a fountain a vessel holds at a time.
func (h history) amount(vessel, after, fountain int) (n int) {
	for _, b := range h[after] {
		if b.vessel == vessel && b.fountain == fountain {
			n += b.drops
		}
	}
	return n
}

// all is how many drops a vessel holds at a time.
func (h history) all(vessel, after int) (n int) {
	for _, b := range h[after] {
		if b.vessel == vessel {
			n += b.drops
		}
	}
	return n
}

// moved is how many drops of a fountain an act moved.
func (h history) moved(act, fountain int) (n int) {
	for _, b := range h[act] {
		if b.fountain == fountain && b.way[len(b.way)-1] == act {
			n += b.drops
		}
	}
	return n
}

// gone is how many drops of a fountain are lost and rinsed out.
func (h history) gone(fountain int) int { return h.amount(0, len(h)-1, fountain) }

// agrees reports whether all tastes of a fountain are true.
func (h history) agrees(tastes []api.Taste, fountain int) bool {
	for _, x := range tastes {
		n := h.amount(x.Vessel, x.After, x.Fountain)
		if x.Fountain == fountain && (n < x.Drops.Lo || n > x.Drops.Hi) {
			return false
		}
	}
	return true
}

// shared lists all choices of how many drops go of each batch in a vessel, so many in all.
func shared(l []batch, vessel, many int) [][]int {
	if len(l) == 0 {
		if many == 0 {
			return [][]int{nil}
		}
		return nil
	}
	most := 0
	if l[0].vessel == vessel {
		most = min(many, l[0].drops)
	}
	var all [][]int
	for n := range most + 1 {
		for _, rest := range shared(l[1:], vessel, many-n) {
			all = append(all, append(ints(n), rest...))
		}
	}
	return all
}

// split is what there is after an act by which so many of each batch go.
func split(l []batch, goes []int, to, act int) (after []batch) {
	for i, b := range l {
		if b.drops > goes[i] {
			after = append(after, batch{b.fountain, b.vessel, b.drops - goes[i], b.way})
		}
		if goes[i] > 0 {
			after = append(after, batch{b.fountain, to, goes[i], append(slices.Clone(b.way), act)})
		}
	}
	return after
}

// histories lists all that can have happened, tastes not regarded.
func histories(m api.Mix) []history {
	all := []history{{nil}}
	for i, x := range m.Acts {
		var longer []history
		for _, h := range all {
			if x.Kind == api.ActFill {
				after := append(slices.Clone(h[i]), batch{x.From, x.To, x.Drops, ints(i + 1)})
				longer = append(longer, append(slices.Clone(h), after))
				continue
			}
			many := x.Drops
			if x.Kind == api.ActRinse {
				many = h.all(x.From, i)
			}
			for _, goes := range shared(h[i], x.From, many) {
				longer = append(longer, append(slices.Clone(h), split(h[i], goes, x.To, i+1)))
			}
		}
		all = longer
	}
	return all
}

// trueOnes is the histories in which all tastes of a fountain are true.
func trueOnes(m api.Mix, all []history, fountain int) (l []history) {
	for _, h := range all {
		if h.agrees(m.Tastes, fountain) {
			l = append(l, h)
		}
	}
	return l
}

// numbersOf is all numbers that histories tell, in increasing order, each once.
func numbersOf(all []history, tells func(h history) int) []int {
	l := map[int]bool{}
	for _, h := range all {
		l[tells(h)] = true
	}
	return slices.Sorted(maps.Keys(l))
}

// spanOf is the least and the greatest number that histories tell, of which there is one at least.
func spanOf(all []history, tells func(h history) int) api.Span {
	l := numbersOf(all, tells)
	return span(l[0], l[len(l)-1])
}

// knownOf is what is known of something in histories, of which there is one at least.
func knownOf(all []history, is func(h history) bool) int {
	many := 0
	for _, h := range all {
		if is(h) {
			many++
		}
	}
	switch many {
	case 0:
		return api.KnownNo
	case len(all):
		return api.KnownYes
	}
	return api.KnownOpen
}

// totals is how many drops each vessel holds after so many acts, by its Id.
func totals(m api.Mix, after int) map[int]int {
	held := map[int]int{}
	for _, x := range m.Acts[:after] {
		switch x.Kind {
		case api.ActFill:
			held[x.To] += x.Drops
		case api.ActPour:
			held[x.From] -= x.Drops
			held[x.To] += x.Drops
		case api.ActLose:
			held[x.From] -= x.Drops
		case api.ActRinse:
			held[x.From] = 0
		}
	}
	return held
}

// isWay reports, word by word as the chapter says it, whether a list of acts is a way of a drop of a fountain to a vessel, by a time.
func isWay(m api.Mix, l []int, vessel, after, fountain int) bool {
	if len(l) == 0 {
		return false
	}
	in := 0
	for act := 1; act <= after; act++ {
		x := m.Acts[act-1]
		switch isOnWay := slices.Contains(l, act); {
		case isOnWay && act == l[0]:
			if x.Kind != api.ActFill || x.From != fountain {
				return false
			}
			in = x.To
		case isOnWay:
			if x.Kind != api.ActPour || x.From != in {
				return false
			}
			in = x.To
		case act > l[0] && x.Kind != api.ActFill && x.From == in:
			if x.Kind == api.ActRinse || totals(m, act-1)[in] == x.Drops {
				return false
			}
		}
	}
	return l[len(l)-1] <= after && in == vessel
}

// listsOf is all lists of some of the numbers, shorter ones first, those of one length in order.
func listsOf(numbers []int) [][]int {
	var all [][]int
	for bits := range 1 << len(numbers) {
		var l []int
		for i, n := range numbers {
			if bits>>i&1 == 1 {
				l = append(l, n)
			}
		}
		all = append(all, l)
	}
	slices.SortFunc(all, func(a, b []int) int {
		if len(a) != len(b) {
			return len(a) - len(b)
		}
		return slices.Compare(a, b)
	})
	return all
}

// upTo is the numbers from 1 on.
func upTo(n int) (l []int) {
	for i := range n {
		l = append(l, i+1)
	}
	return l
}

// waysOf is all ways to a vessel by a time, in order.
func waysOf(m api.Mix, vessel, after, fountain int) (ways [][]int) {
	for _, l := range listsOf(upTo(after)) {
		if isWay(m, l, vessel, after, fountain) {
			ways = append(ways, l)
		}
	}
	return ways
}

func sharesOne(a, b []int) bool {
	return slices.ContainsFunc(a, func(n int) bool { return slices.Contains(b, n) })
}

// isEnough reports whether each way has one of the acts.
func isEnough(ways [][]int, acts []int) bool {
	return !slices.ContainsFunc(ways, func(way []int) bool { return !sharesOne(way, acts) })
}

// watchOf is the list that Watch has to return, of ways of which there is one at least.
func watchOf(m api.Mix, ways [][]int) []int {
	all := listsOf(upTo(len(m.Acts)))
	return all[slices.IndexFunc(all, func(l []int) bool { return isEnough(ways, l) })]
}

// isBetter reports whether each fountain has a truth without some tastes.
func isBetter(m api.Mix, all []history, without []int) bool {
	m.Tastes = slices.DeleteFunc(slices.Clone(m.Tastes), func(x api.Taste) bool { return slices.Contains(without, x.Number) })
	for fountain := 1; fountain <= m.Fountains; fountain++ {
		if len(trueOnes(m, all, fountain)) == 0 {
			return false
		}
	}
	return true
}

// falseOnes is what Wrong has to return, by all lists of tastes.
func falseOnes(m api.Mix, all []history) ([]int, api.Errno) {
	var numbers []int
	for _, x := range m.Tastes {
		numbers = append(numbers, x.Number)
	}
	for _, l := range listsOf(numbers) {
		if len(l) > api.MaxStruck {
			break
		}
		if isBetter(m, all, l) {
			return l, api.OK
		}
	}
	return nil, api.ErrMany
}

// dice is a row of numbers that looks thrown, the same in each run.
type dice struct{ state uint64 }

// upTo returns a number from lo to hi.
func (d *dice) upTo(lo, hi int) int {
	d.state = d.state*6364136223846793005 + 1442695040888963407
	return lo + int(d.state>>33)%(hi-lo+1)
}

func (d *dice) one(l []int) int { return l[d.upTo(0, len(l)-1)] }

func (d *dice) vessel(m api.Mix) int { return m.Vessels[d.upTo(0, len(m.Vessels)-1)].Id }

// act is one that can be done, if a few throws find one: mostly a filling where there is little yet, and a pouring later on.
func (d *dice) act(m api.Mix) (api.Act, bool) {
	held := totals(m, len(m.Acts))
	for range 20 {
		from, to := d.upTo(0, len(m.Vessels)-1), d.upTo(0, len(m.Vessels)-1)
		source, target := m.Vessels[from].Id, m.Vessels[to].Id
		n := d.upTo(1, 3)
		isThere, isRoom := n <= held[source], n <= m.Vessels[to].Size-held[target]
		switch kind := d.upTo(1, 20); {
		case (kind <= 3 || len(m.Acts) < 3 && kind <= 12) && isRoom:
			return fill(d.upTo(1, m.Fountains), target, n), true
		case kind > 3 && kind <= 16 && isThere && isRoom && from != to:
			return pour(source, target, n), true
		case kind > 16 && kind < 20 && isThere:
			return lose(source, n), true
		case kind == 20:
			return rinse(source), true
		}
	}
	return api.Act{}, false
}

// taste is mostly about what can be in a vessel.
func (d *dice) taste(m api.Mix, number int) api.Taste {
	after := max(d.upTo(0, len(m.Acts)), d.upTo(0, len(m.Acts)))
	lo := max(0, d.upTo(-2, 3))
	return taste(number, d.vessel(m), after, d.upTo(1, m.Fountains), lo, lo+d.upTo(0, 3))
}

// mix is a small one, so that all its histories can be listed.
func (d *dice) mix(acts, tastes int) api.Mix {
	m := api.Mix{Fountains: d.one(ints(1, 2, 2, 2, 2, 3, 3, 4))}
	for i := range d.one(ints(1, 2, 3, 3, 3, 4)) {
		m.Vessels = append(m.Vessels, api.Vessel{Id: 3*i + d.upTo(1, 3), Size: d.upTo(2, 6)})
	}
	for range max(d.upTo(0, acts), d.upTo(0, acts)) {
		if x, ok := d.act(m); ok {
			m.Acts = append(m.Acts, x)
		}
	}
	for i := range d.upTo(0, tastes) {
		m.Tastes = append(m.Tastes, d.taste(m, 3*i+d.upTo(1, 3)))
	}
	return m
}
