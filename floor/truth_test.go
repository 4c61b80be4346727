package floor_test

import (
	"slices"
	"testing"

	"aguador/api"
	"aguador/floor"
)

// graphs calls a test with floors and each choice of quarrels among them.
func graphs(f api.Floors, some func(f api.Floors)) {
	var pairs []api.Quarrel
	for i, a := range f.Ids {
		for _, b := range f.Ids[i+1:] {
			pairs = append(pairs, quarrel(a, b))
		}
	}
	for set := range uint(1) << len(pairs) {
		f.Quarrels = nil
		for i, x := range pairs {
			if set>>i&1 == 1 {
				f.Quarrels = append(f.Quarrels, x)
			}
		}
		some(f)
	}
}

// nets calls a test with all that so many floors can be owed, up to some pence each.
func nets(floors, most int, some func(net []int)) {
	var follow func(net []int, sum int)
	follow = func(net []int, sum int) {
		if len(net) == floors {
			if sum == 0 {
				some(net)
			}
			return
		}
		for n := -most; n <= most; n++ {
			follow(append(slices.Clone(net), n), sum+n)
		}
	}
	follow(nil, 0)
}

// small calls a test with all floors of up to four, with all quarrels, and how many pence must change hands for all that is owed.
func small(t *testing.T, some func(x town, f api.Floors, pennies map[[6]int]int)) {
	t.Helper()
	ids := ints(2, 3, 70, 9999)
	for floors, most := range map[int]int{0: 0, 1: 0, 2: 4, 3: 4, 4: 2} {
		graphs(api.Floors{Ids: ids[:floors]}, func(f api.Floors) {
			pennies := townOf(f).pennies(2*most + 1)
			nets(floors, most, func(net []int) {
				g := owed(ids[:floors], net...)
				g.Quarrels = f.Quarrels
				some(townOf(g), g, pennies)
				if t.Failed() {
					t.Fatal(g, net)
				}
			})
		})
	}
}

// checkLists checks all that is told of the lists of the fewest, which are these.
func checkLists(t *testing.T, f api.Floors, all [][]api.Payment) {
	t.Helper()
	if n, e := floor.Fewest(f); n != len(all[0]) || e != api.OK {
		t.Error("Fewest", n, e)
	}
	if n, e := floor.Count(f); n != len(all) || e != api.OK {
		t.Error("Count", n, e)
	}
	best := foremost(all)
	if l, e := floor.Settle(f); !slices.Equal(l, best) || e != api.OK {
		t.Error("Settle", l, e)
	}
	if l, e := floor.Sure(f); !slices.EqualFunc(l, inAll(all), func(a, b api.Payment) bool { return a == b }) || e != api.OK {
		t.Error("Sure", l, e)
	}
	if l, e := floor.Groups(f); !slices.EqualFunc(l, groupsOf(f.Ids, best), slices.Equal[[]int]) || e != api.OK {
		t.Error("Groups", l, e)
	}
}

// P8.2, P8.3, P8.4, P8.8, P8.10, P8.11, P8.12: all small floors, with all that can be paid tried, and penny after penny paid.
func TestSmallFloors(t *testing.T) {
	settled, not := 0, 0
	small(t, func(x town, f api.Floors, pennies map[[6]int]int) {
		n, can := pennies[x.key()]
		if got, e := floor.Can(f); got != can || e != api.OK {
			t.Error("Can", got, e)
		}
		if x.isAlone(x.all()) != can {
			t.Error("isAlone", can)
		}
		if !can {
			not++
			expect(t, f, given{}, api.ErrBad, settling()...)
			return
		}
		settled++
		if k, e := floor.Cheapest(f); k != n || k != x.priced() || e != api.OK {
			t.Error("Cheapest", k, n, x.priced(), e)
		}
		all := x.shortest(9)
		checkLists(t, f, all)
		if many := len(x.byPairs(len(all[0]))); many != len(all) || len(all[0]) != len(f.Ids)-x.groupsIn(x.all()) {
			t.Error("byPairs", many, x.groupsIn(x.all()), all)
		}
	})
	if settled < 2000 || not < 2000 {
		t.Error("too few of a kind:", settled, not)
	}
}

// P8.3, P8.4, P8.8: some floors of five, with all that can be paid tried.
func TestFiveFloors(t *testing.T) {
	r := &dice{state: 5}
	lengths := map[int]int{}
	for range 400 {
		f := r.quarrelling(r.poor(5, 1), r.one(ints(0, 20, 40)))
		x := townOf(f)
		if !x.isAlone(x.all()) {
			continue
		}
		most := 0
		for _, n := range x.net {
			most += max(n, 0)
		}
		all := x.shortest(most + 1)
		lengths[len(all[0])]++
		checkLists(t, f, all)
		if t.Failed() {
			t.Fatal(f, x.net)
		}
	}
	if lengths[4] < 10 || lengths[3] < 50 || lengths[2] < 50 {
		t.Error("too few of a kind:", lengths)
	}
}

// great calls a test with floors of all kinds that can settle, as many as are said.
func great(t *testing.T, many int, some func(x town, f api.Floors, r *dice)) {
	t.Helper()
	r := &dice{state: 17}
	settled, six, several := 0, 0, 0
	for settled < many {
		f := r.floors()
		x := townOf(f)
		if !x.isAlone(x.all()) {
			continue
		}
		settled++
		some(x, f, r)
		if t.Failed() {
			t.Fatal(f, x.net)
		}
		if len(f.Ids) == 6 {
			six++
		}
		if open(x.net) > 3 && x.groupsIn(x.all()) > 1 {
			several++
		}
	}
	if six < many/6 || several < many/8 {
		t.Error("too few of a kind:", six, several)
	}
}

// P8.3, P8.4, P8.8, P8.10, P8.11, P8.12: floors of all kinds, with all choices of pairs tried that form no ring.
func TestAllFloors(t *testing.T) {
	great(t, 300, func(x town, f api.Floors, _ *dice) {
		many := len(f.Ids) - x.groupsIn(x.all())
		for n := range many {
			if l := x.byPairs(n); len(l) > 0 {
				t.Error(n, l)
			}
		}
		checkLists(t, f, x.byPairs(many))
		if n, e := floor.Cheapest(f); n != x.priced() || e != api.OK {
			t.Error("Cheapest", n, x.priced(), e)
		}
	})
}

// P8.1, P8.2: floors of all kinds, some of which cannot settle.
func TestCanOfAllFloors(t *testing.T) {
	r := &dice{state: 19}
	settled, not := 0, 0
	for range 400 {
		f := r.floors()
		x := townOf(f)
		can := x.isAlone(x.all())
		if got, e := floor.Can(f); got != can || e != api.OK {
			t.Fatal(f, x.net, got, e)
		}
		e := api.OK
		if can {
			settled++
		} else {
			not++
			e = api.ErrBad
		}
		expect(t, f, given{}, e, settling()...)
	}
	if settled < 100 || not < 40 {
		t.Error("too few of a kind:", settled, not)
	}
}

// P8.2, P8.9: shares to the last penny, and what all floors are owed, which is together 0.
func TestSharesOfAllFloors(t *testing.T) {
	r := &dice{state: 31}
	many, uneven := 0, 0
	for range 1000 {
		f := r.rich(r.upTo(1, 6))
		for _, x := range f.Bills {
			l, e := floor.Shares(f, x.Number)
			if !slices.Equal(l, sharesOf(f, x)) || e != api.OK || sumOf(l) != x.Pence {
				t.Fatal(f, x, l, e)
			}
			many++
			if len(x.Stakes) > 1 && x.Pence%2 == 1 {
				uneven++
			}
		}
		l, e := floor.Net(f)
		if !slices.Equal(l, netOf(f)) || e != api.OK || sumOf(l) != 0 {
			t.Fatal(f, l, e)
		}
	}
	if many < 3000 || uneven < 1000 {
		t.Error("too few of a kind:", many, uneven)
	}
}

func sumOf(l []int) (n int) {
	for _, k := range l {
		n += k
	}
	return n
}

// P8.8: the list that is told is one, and settles.
func TestSettleSettles(t *testing.T) {
	great(t, 200, func(x town, f api.Floors, _ *dice) {
		l, _ := floor.Settle(f)
		for i, y := range l {
			q := quarrel(min(y.From, y.To), max(y.From, y.To))
			if y.From == y.To || !slices.Contains(f.Ids, y.From) || !slices.Contains(f.Ids, y.To) || y.Pence < 1 || slices.Contains(f.Quarrels, q) {
				t.Error(l)
			}
			if i > 0 && (l[i-1].From > y.From || l[i-1].From == y.From && l[i-1].To >= y.To) {
				t.Error(l)
			}
		}
		f.Paid = slices.Concat(f.Paid, l)
		if open(netOf(f)) > 0 {
			t.Error(l)
		}
	})
}

// P8.11: no fewer pence change hands than all that is owed, nor than by any list that settles: some are made out of the one that is told, with more that goes round.
func TestCheapestOfAnyList(t *testing.T) {
	great(t, 200, func(x town, f api.Floors, r *dice) {
		n, _ := floor.Cheapest(f)
		l, _ := floor.Settle(f)
		owed := 0
		for _, k := range x.net {
			owed += max(k, 0)
		}
		if n < owed || n > pence(l) {
			t.Error(n, owed, l)
		}
		for range 20 {
			if k := pence(x.around(l, r)); k < n {
				t.Error(n, k, l)
			}
		}
	})
}

// around is the list if some pence more go round by three floors: what two floors pay each other is taken off.
func (x town) around(l []api.Payment, r *dice) (all []api.Payment) {
	if len(x.ids) < 3 {
		return l
	}
	flow := map[way]int{}
	for _, y := range l {
		flow[way{y.From, y.To}] += y.Pence
		flow[way{y.To, y.From}] -= y.Pence
	}
	a, b, c := r.upTo(0, len(x.ids)-1), r.upTo(0, len(x.ids)-1), r.upTo(0, len(x.ids)-1)
	ring := []way{{a, b}, {b, c}, {c, a}}
	for _, w := range ring {
		if !slices.Contains(x.ways, w) {
			return l
		}
	}
	more := r.upTo(1, 9)
	if len(l) > 0 {
		more = l[r.upTo(0, len(l)-1)].Pence
	}
	for _, w := range ring {
		flow[way{x.ids[w.from], x.ids[w.to]}] += more
		flow[way{x.ids[w.to], x.ids[w.from]}] -= more
	}
	for w, n := range flow {
		if n > 0 {
			all = append(all, pay(w.from, w.to, n))
		}
	}
	return all
}

// P8.7, P8.13: with a quarrel more there are never fewer payments nor pence; mended, all is as before.
func TestQuarrelMore(t *testing.T) {
	more, bad := 0, 0
	great(t, 60, func(x town, f api.Floors, _ *dice) {
		before := outcomes(f)
		for _, w := range x.ways {
			if w.from > w.to {
				continue
			}
			q := quarrel(x.ids[w.from], x.ids[w.to])
			g, e := floor.Split(f, q)
			if e != api.OK {
				t.Fatal(q, e)
			}
			if m, e := floor.Mend(g, q); e != api.OK || !same(m, f) || !slices.EqualFunc(outcomes(m), before, told.equal) {
				t.Error(q, m, e)
			}
			n, e := floor.Fewest(g)
			k, h := floor.Cheapest(g)
			can := townOf(g).isAlone(x.all())
			if can != (e == api.OK) || can != (h == api.OK) {
				t.Error(q, can, e, h)
			}
			if !can {
				bad++
				continue
			}
			was, _ := floor.Fewest(f)
			cost, _ := floor.Cheapest(f)
			if n < was || k < cost {
				t.Error(q, n, was, k, cost)
			}
			if n > was || k > cost {
				more++
			}
		}
	})
	if more < 20 || bad < 5 {
		t.Error("too few of a kind:", more, bad)
	}
}

// outcomes is all that is told of floors.
func outcomes(f api.Floors) (l []told) {
	for _, c := range calls(given{}) {
		if slices.Contains(append(settling(), "Can", "Net"), c.name) {
			l = append(l, c.run(f))
		}
	}
	return l
}

// P8.7, P8.14: each payment of the list, once it is made, leaves one less to be made.
func TestPayOne(t *testing.T) {
	paid := 0
	great(t, 100, func(_ town, f api.Floors, _ *dice) {
		l, _ := floor.Settle(f)
		for _, y := range l {
			if y.Pence > api.MaxPence || len(f.Paid) == api.MaxPaid {
				continue
			}
			paid++
			g, e := floor.Pay(f, y)
			n, h := floor.Fewest(g)
			if e != api.OK || n != len(l)-1 || h != api.OK {
				t.Error(y, e, n, h)
			}
		}
	})
	if paid < 150 {
		t.Error("too few payments:", paid)
	}
}

// P8.5, P8.15: each choice of floors, two that owe each other, and all of them.
func TestAloneOfAllFloors(t *testing.T) {
	alone, not, two := 0, 0, 0
	check := func(x town, f api.Floors, _ *dice) {
		for set := range x.all() + 1 {
			var some []int
			for i, id := range f.Ids {
				if set>>i&1 == 1 {
					some = append(some, id)
				}
			}
			got, e := floor.Alone(f, some)
			if got != x.isAlone(set) || e != api.OK {
				t.Error(some, got, e)
			}
			if got {
				alone++
			} else {
				not++
			}
			if len(some) == 2 && x.sum(set) == 0 && !slices.Contains(f.Quarrels, quarrel(some[0], some[1])) {
				two++
				if !got {
					t.Error(some)
				}
			}
		}
		can, _ := floor.Can(f)
		if all, e := floor.Alone(f, f.Ids); all != can || e != api.OK {
			t.Error(all, e)
		}
	}
	great(t, 100, check)
	r := &dice{state: 37}
	for range 60 {
		f := r.floors()
		check(townOf(f), f, r)
	}
	if alone < 500 || not < 1000 || two < 30 {
		t.Error("too few of a kind:", alone, not, two)
	}
}

// P8.6: what is left after some payments, made one after the other.
func TestJudgeOfAllFloors(t *testing.T) {
	made, not := 0, 0
	great(t, 300, func(x town, f api.Floors, r *dice) {
		l, _ := floor.Settle(f)
		if !slices.ContainsFunc(l, func(y api.Payment) bool { return y.Pence > api.MaxPence }) {
			if left, at, e := floor.Judge(f, l); open(left) > 0 || len(left) != len(f.Ids) || at != 0 || e != api.OK {
				t.Error(l, left, at, e)
			}
		}
		if len(f.Ids) == 0 {
			return
		}
		var some []api.Payment
		for range r.upTo(0, api.MaxPaid) {
			some = append(some, pay(r.one(f.Ids), r.one(f.Ids), r.one(ints(1, 7, 1000000))))
		}
		isWrong := func(y api.Payment) bool {
			i, k := slices.Index(f.Ids, y.From), slices.Index(f.Ids, y.To)
			return !slices.Contains(x.ways, way{i, k})
		}
		left, at, e := floor.Judge(f, some)
		if wrong := slices.IndexFunc(some, isWrong); wrong >= 0 {
			not++
			if len(left) > 0 || at != wrong || e != api.ErrPay {
				t.Error(some, left, at, e)
			}
			return
		}
		made++
		want := f
		want.Paid = slices.Concat(f.Paid, some)
		if !slices.Equal(left, netOf(want)) || at != 0 || e != api.OK {
			t.Error(some, left, at, e)
		}
	})
	if made < 30 || not < 100 {
		t.Error("too few of a kind:", made, not)
	}
}
