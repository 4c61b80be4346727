package mix

import (
	"iter"
	"slices"

	"aguador/api"
)

// table is mixed water at work: it is valid, and it is known what its vessels hold at each time.
type table struct {
	api.Mix
	holds []drops
}

// share is what the table has of one fountain.
type share struct {
	table
	fountain int
}

// moment is a share at a time.
type moment struct {
	share
	after int
}

// account is a share of which some truth is known: what vessels can hold of the fountain at each time, in all of them.
type account struct {
	share
	can []map[drops]bool
}

func laid(m api.Mix) table { return table{m, follow(m)} }

func (b table) isTastedLast() bool {
	return slices.ContainsFunc(b.Tastes, func(x api.Taste) bool { return x.After == len(b.Acts) })
}

// moves yields how many drops of the fountain an act can move, of those that vessels hold, each number with what they hold of it then.
func (s share) moves(i int, of drops) iter.Seq2[int, drops] {
	x := s.Acts[i]
	here, others := 0, 0
	if from, _ := ends(s.Mix, x); from != outside {
		here = of[from]
		others = s.holds[i][from] - here
	}
	can := deeds()[x.Kind].moves(x, s.fountain, here, others)
	return func(yield func(int, drops) bool) {
		for n := can.Lo; n <= can.Hi; n++ {
			if !yield(n, moved(s.Mix, x, of, n)) {
				return
			}
		}
	}
}

// canBe reports whether all tastes of the fountain at the time are true.
func (t moment) canBe(of drops) bool {
	for _, x := range t.Tastes {
		isHere := x.Fountain == t.fountain && x.After == t.after
		if isHere && !within(x.Drops, of[index(t.Mix, x.Vessel)]) {
			return false
		}
	}
	return true
}

// keep takes out of what vessels can hold what cannot be.
func keep(l map[drops]bool, canBe func(of drops) bool) {
	for of := range l {
		if !canBe(of) {
			delete(l, of)
		}
	}
}

// reach returns what vessels can hold of the fountain at each time by the acts and tastes up to then.
func (s share) reach() []map[drops]bool {
	l := []map[drops]bool{{drops{}: true}}
	keep(l[0], moment{s, 0}.canBe)
	for i := range len(s.Acts) {
		next := map[drops]bool{}
		for of := range l[i] {
			for _, then := range s.moves(i, of) {
				next[then] = true
			}
		}
		keep(next, moment{s, i + 1}.canBe)
		l = append(l, next)
	}
	return l
}

// leads reports whether an act can lead to something of what vessels can hold after it.
func (s share) leads(i int, of drops, next map[drops]bool) bool {
	for _, then := range s.moves(i, of) {
		if next[then] {
			return true
		}
	}
	return false
}

// truths returns the account of the fountain: false if it has no truth.
func (s share) truths() (account, bool) {
	l := s.reach()
	for i := len(s.Acts) - 1; i >= 0; i-- {
		keep(l[i], func(of drops) bool { return s.leads(i, of, l[i+1]) })
	}
	return account{s, l}, len(l[0]) > 0
}

// isTrue reports whether the fountain has a truth.
func (s share) isTrue() bool {
	l := s.reach()
	return len(l[len(l)-1]) > 0
}

// around returns the least span that holds all of some numbers, of which there is one at least.
func around(numbers []int) api.Span { return span(slices.Min(numbers), slices.Max(numbers)) }

// of returns how many drops of the fountain a place holds.
func (a account) of(p place) api.Span {
	var l []int
	for of := range a.can[p.after] {
		l = append(l, of[p.vessel])
	}
	return around(l)
}

// moved returns how many drops of the fountain an act moves.
func (a account) moved(i int) api.Span {
	var l []int
	for of := range a.can[i] {
		for n, then := range a.moves(i, of) {
			if a.can[i+1][then] {
				l = append(l, n)
			}
		}
	}
	return around(l)
}

// gone returns how many drops of the fountain are no more in any vessel at the end: what was filled of it, and is not there.
func (a account) gone() api.Span {
	filled := 0
	for _, x := range a.Acts {
		if x.Kind == api.ActFill && x.From == a.fountain {
			filled += x.Drops
		}
	}
	var l []int
	for of := range a.can[len(a.Acts)] {
		n := filled
		for i := range len(a.Vessels) {
			n -= of[i]
		}
		l = append(l, n)
	}
	return around(l)
}

// known tells what is known of a number of drops: whether it is as great as another one.
func known(x api.Span, least int) uint8 {
	switch {
	case x.Lo >= least:
		return api.KnownYes
	case x.Hi < least:
		return api.KnownNo
	}
	return api.KnownOpen
}

// pure tells whether all that a place holds is of the fountain.
func (a account) pure(p place) uint8 { return known(a.of(p), a.holds[p.after][p.vessel]) }

// without returns the table without the tastes of these Numbers, in memory of its own.
func (b table) without(numbers ...int) table {
	b.Mix = copied(b.Mix)
	b.Tastes = slices.DeleteFunc(b.Tastes, func(x api.Taste) bool { return slices.Contains(numbers, x.Number) })
	return b
}

// doing returns the table with an act more, in memory of its own.
func (b table) doing(x api.Act) table {
	m := copied(b.Mix)
	m.Acts = append(m.Acts, x)
	return laid(m)
}

// copied returns mixed water that shares no memory with another one.
func copied(m api.Mix) api.Mix {
	m.Vessels = slices.Clone(m.Vessels)
	m.Acts = slices.Clone(m.Acts)
	m.Tastes = slices.Clone(m.Tastes)
	return m
}
