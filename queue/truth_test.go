package queue_test

import (
	"slices"
	"testing"

	"aguador/api"
	"aguador/queue"
)

// small calls a test with dawns of which all truths are listed, and, if it is one of many comers, with the stair.
func small(t *testing.T, many, comers, notes int, some func(d api.Dawn, all []fact, r *dice)) {
	t.Helper()
	r := &dice{state: 11}
	withTruth := 0
	for i := range many {
		d := r.dawn(comers, notes)
		if i == 0 && comers > 3 {
			d = stair()
		}
		if e := queue.Check(d); e != api.OK {
			t.Fatal(d, e)
		}
		all := facts(d)
		if len(all) > 0 {
			withTruth++
		}
		some(d, all, r)
		if t.Failed() {
			t.Fatal(d)
		}
	}
	if withTruth < many/4 || notes > 0 && withTruth > many*9/10 {
		t.Error("too few dawns with a truth, or without one:", withTruth)
	}
}

// P2.2, P2.9: whoever fills how long, the queue is in the order of custom, whatever was noted.
func TestServeByCustom(t *testing.T) {
	r := &dice{state: 5}
	for range 20000 {
		d := r.dawn(6, 2)
		var minutes []int
		for _, c := range d.Comers {
			minutes = append(minutes, r.upTo(c.Skins*d.Fill.Lo, c.Skins*d.Fill.Hi))
		}
		if l, e := queue.Serve(d, minutes); !slices.Equal(l, []api.Turn(served(d, minutes))) || e != api.OK {
			t.Fatal(d, minutes, l, e)
		}
	}
}

// P2.1, P2.2, P2.8: all orders, and no others.
func TestOrdersOfAllTruths(t *testing.T) {
	several := 0
	small(t, 3000, 5, 1, func(d api.Dawn, all []fact, _ *dice) {
		l, e := queue.Orders(d)
		if len(all) == 0 {
			if len(l) != 0 || e != api.ErrBad {
				t.Error("Orders", l, e)
			}
			return
		}
		if want := ordersOf(all); !slices.EqualFunc(l, want, slices.Equal[[]int]) || e != api.OK {
			t.Error("Orders", l, e, want)
		}
		if len(l) > 2 {
			several++
		}
	})
	if several < 50 {
		t.Error("too few dawns with several orders:", several)
	}
}

// P2.3, P2.10: when each one begins and ends, and its place.
func TestTimesInAllTruths(t *testing.T) {
	small(t, 2000, 5, 3, func(d api.Dawn, all []fact, _ *dice) {
		for _, c := range d.Comers {
			a, e := queue.Begins(d, c.Id)
			b, f := queue.Ends(d, c.Id)
			p, g := queue.Place(d, c.Id)
			if len(all) == 0 {
				if a != b || a != p || (a != api.Span{}) || e != api.ErrBad || f != api.ErrBad || g != api.ErrBad {
					t.Error("without a truth", a, e, b, f, p, g)
				}
				continue
			}
			if a != spanOf(all, func(f fact) int { return f[f.at(c.Id)].Begin }) || e != api.OK {
				t.Error("Begins", c, a, e)
			}
			if b != spanOf(all, func(f fact) int { return f[f.at(c.Id)].End }) || f != api.OK {
				t.Error("Ends", c, b, f)
			}
			if p != spanOf(all, func(f fact) int { return f.at(c.Id) + 1 }) || g != api.OK {
				t.Error("Place", c, p, g)
			}
		}
	})
}

// P2.3: what is known of two comers, and of each minute.
func TestKnownInAllTruths(t *testing.T) {
	small(t, 1200, 4, 2, func(d api.Dawn, all []fact, _ *dice) {
		for _, c := range d.Comers {
			for _, o := range d.Comers {
				k, e := queue.Before(d, c.Id, o.Id)
				switch {
				case len(all) == 0:
					if k != 0 || e != api.ErrBad {
						t.Error("Before", k, e)
					}
				case c == o:
					if k != 0 || e != api.ErrArg {
						t.Error("Before", c, k, e)
					}
				default:
					if k != knownOf(all, func(f fact) bool { return f.at(c.Id) < f.at(o.Id) }) || e != api.OK {
						t.Error("Before", c, o, k, e)
					}
				}
			}
			for minute := -1; minute < 40; minute++ {
				k, e := queue.Sure(d, c.Id, minute)
				if len(all) == 0 {
					if k != 0 || e != api.ErrBad {
						t.Error("Sure", k, e)
					}
					break
				}
				if k != knownOf(all, func(f fact) bool { return f[f.at(c.Id)].End <= minute }) || e != api.OK {
					t.Error("Sure", c, minute, k, e)
				}
			}
		}
	})
}

// P2.4, P2.15: how many have ended by each minute, and when the last one has.
func TestDoneInAllTruths(t *testing.T) {
	small(t, 1200, 4, 2, func(d api.Dawn, all []fact, _ *dice) {
		closes, e := queue.Closes(d)
		longest, f := queue.Waits(d)
		if len(all) == 0 {
			done, g := queue.Done(d, 9)
			if closes != longest || closes != done || (done != api.Span{}) || e != api.ErrBad || f != api.ErrBad || g != api.ErrBad {
				t.Error("without a truth", closes, e, longest, f, done, g)
			}
			return
		}
		ends := func(f fact) int {
			if len(f) == 0 {
				return d.Open
			}
			return f[len(f)-1].End
		}
		if closes != spanOf(all, ends) || e != api.OK {
			t.Error("Closes", closes, e)
		}
		if longest != spanOf(all, func(f fact) int { return f.longest(d) }) || f != api.OK {
			t.Error("Waits", longest, f)
		}
		before := api.Span{}
		for minute := -1; minute <= closes.Hi; minute++ {
			x, e := queue.Done(d, minute)
			if x != spanOf(all, func(f fact) int { return f.done(minute) }) || e != api.OK {
				t.Error("Done", minute, x, e)
			}
			if x.Lo < before.Lo || x.Hi < before.Hi {
				t.Error("fewer have ended", minute, before, x)
			}
			before = x
		}
		if many := len(d.Comers); before != span(many, many) {
			t.Error("not all have ended", before)
		}
	})
}

// isInTime reports whether there is a truth, and a comer has ended by a minute in each one, if it came at another minute.
func isInTime(d api.Dawn, i, come, minute int) bool {
	d.Comers = slices.Clone(d.Comers)
	d.Comers[i].Come = come
	all := facts(d)
	return len(all) > 0 && knownOf(all, func(f fact) bool { return f[f.at(d.Comers[i].Id)].End <= minute }) == api.KnownYes
}

// P2.5, P2.14: who comes at the last minute is done in time, and nobody who comes after it.
func TestLastOfAllMinutes(t *testing.T) {
	kinds := map[api.Errno]int{}
	small(t, 250, 3, 2, func(d api.Dawn, _ []fact, r *dice) {
		for i, c := range d.Comers {
			minute := r.upTo(0, 30)
			want, f := 0, api.ErrNone
			for come := minute; come >= 0 && f != api.OK; come-- {
				if isInTime(d, i, come, minute) {
					want, f = come, api.OK
				}
			}
			if n, e := queue.Last(d, c.Id, minute); n != want || e != f {
				t.Error("Last", c, minute, n, e, want, f)
			}
			kinds[f]++
		}
	})
	if kinds[api.OK] < 50 || kinds[api.ErrNone] < 50 {
		t.Error("too few of a kind:", kinds)
	}
}

// P2.14: without notes whoever comes earlier is done in time, too.
func TestEarlierIsInTime(t *testing.T) {
	found := 0
	small(t, 120, 3, 0, func(d api.Dawn, _ []fact, r *dice) {
		for i, c := range d.Comers {
			minute := r.upTo(4, 24)
			last, e := queue.Last(d, c.Id, minute)
			for come := 0; come <= minute; come++ {
				if isInTime(d, i, come, minute) != (e == api.OK && come <= last) {
					t.Error("Last", c, minute, last, e, come)
				}
			}
			if e == api.OK {
				found++
			}
		}
	})
	if found < 50 {
		t.Error("too few are in time:", found)
	}
}

// P2.5, P2.16: up to where an order can come about.
func TestBreaksInAllTruths(t *testing.T) {
	small(t, 1500, 4, 2, func(d api.Dawn, all []fact, r *dice) {
		var order []int
		for _, c := range d.Comers {
			order = slices.Insert(order, r.upTo(0, len(order)), c.Id)
		}
		want := 0
		for _, f := range all {
			for n := range len(order) + 1 {
				if slices.Equal(f.order()[:n], order[:n]) {
					want = max(want, n)
				}
			}
		}
		if n, e := queue.Breaks(d, order); n != want || e != api.OK {
			t.Error("Breaks", order, n, e, want)
		}
		for _, l := range ordersOf(all) {
			if n, e := queue.Breaks(d, l); n != len(l) || e != api.OK {
				t.Error("Breaks", l, n, e)
			}
		}
	})
}

// P2.6, P2.13: the question that tells most.
func TestAskInAllTruths(t *testing.T) {
	asked := 0
	small(t, 3000, 5, 1, func(d api.Dawn, all []fact, _ *dice) {
		one, other, left, e := queue.Ask(d)
		orders := ordersOf(all)
		if len(orders) < 2 {
			want := api.ErrNone
			if len(all) == 0 {
				want = api.ErrBad
			}
			if one != 0 || other != 0 || left != 0 || e != want {
				t.Error("Ask", one, other, left, e)
			}
			return
		}
		var want []int
		for _, a := range d.Comers {
			for _, b := range d.Comers {
				if a.Id >= b.Id {
					continue
				}
				yes := 0
				for _, l := range orders {
					if slices.Index(l, a.Id) < slices.Index(l, b.Id) {
						yes++
					}
				}
				if n := max(yes, len(orders)-yes); want == nil || n < want[2] {
					want = ints(a.Id, b.Id, n)
				}
			}
		}
		if !slices.Equal(ints(one, other, left), want) || e != api.OK {
			t.Error("Ask", one, other, left, e, want)
		}
		asked++
	})
	if asked < 200 {
		t.Error("too few dawns with a question:", asked)
	}
}

// P2.6, P2.12: the fewest false notes.
func TestWrongOfAllLists(t *testing.T) {
	lengths := map[int]int{}
	small(t, 1500, 3, 6, func(d api.Dawn, _ []fact, _ *dice) {
		l, e := queue.Wrong(d)
		want, f := falseOnes(d)
		if !slices.Equal(l, want) || e != f {
			t.Error("Wrong", l, e, want, f)
		}
		if e == api.OK {
			lengths[len(l)]++
		} else {
			lengths[-int(e)]++
		}
	})
	for _, n := range ints(0, 1, 2, 3, -int(api.ErrMany)) {
		if lengths[n] < 10 {
			t.Error("too few dawns of a kind:", n, lengths)
		}
	}
}

// P2.11: one note more never adds an order, nor widens a span.
func TestMoreNeverWidens(t *testing.T) {
	narrower := 0
	small(t, 1500, 4, 2, func(d api.Dawn, all []fact, r *dice) {
		if len(d.Comers) == 0 {
			return
		}
		more, e := queue.Put(d, r.note(d, 100))
		if e != api.OK {
			t.Error("Put", e)
		}
		orders, f := queue.Orders(more)
		if f == api.OK && len(all) == 0 {
			t.Error("a truth more", more)
		}
		if f != api.OK {
			return
		}
		old := ordersOf(all)
		for _, l := range orders {
			if !slices.ContainsFunc(old, func(o []int) bool { return slices.Equal(o, l) }) {
				t.Error("an order more", l, more)
			}
		}
		g := given{minute: r.upTo(0, 20)}
		for _, c := range d.Comers {
			g.one = c.Id
			for _, some := range calls(g) {
				if !slices.Contains([]string{"Begins", "Ends", "Place", "Done", "Closes", "Waits"}, some.name) {
					continue
				}
				a, b := some.run(d).x, some.run(more).x
				if b.Lo < a.Lo || b.Hi > a.Hi {
					t.Error("wider", some.name, a, b, more)
				}
				if a != b {
					narrower++
				}
			}
		}
	})
	if narrower < 500 {
		t.Error("too few narrow anything:", narrower)
	}
}
