package climb_test

import (
	"slices"
	"testing"

	"aguador/api"
	"aguador/climb"
)

// small calls a test with towns of which all walks between two places are listed.
func small(t *testing.T, many, places, links int, some func(y api.Town, from, to int, donkey bool, all []trip, r *dice)) {
	t.Helper()
	r := &dice{state: 7}
	with, several := 0, 0
	for range many {
		y := r.town(places, links)
		if e := climb.Check(y); e != api.OK {
			t.Fatal(y, e)
		}
		from, to, donkey := r.one(y.Places), r.one(y.Places), r.upTo(0, 3) == 0
		all := trips(y, from, to, donkey)
		if len(all) > 0 {
			with++
		}
		if len(all) > 1 {
			several++
		}
		some(y, from, to, donkey, all, r)
		if t.Failed() {
			t.Fatal(y, from, to, donkey)
		}
	}
	if with < many/2 || with > many*9/10 || several < many/5 {
		t.Error("too few towns of a kind:", with, several)
	}
}

// errorOf is the error of calls that need a walk.
func errorOf(all []trip) api.Errno {
	if len(all) == 0 {
		return api.ErrNone
	}
	return api.OK
}

// P3.2, P3.9: of all walks the way is before all others.
func TestWayOfAllWalks(t *testing.T) {
	small(t, 6000, 6, 12, func(y api.Town, from, to int, donkey bool, all []trip, _ *dice) {
		var want trip
		if len(all) > 0 {
			want = wayOf(all)
		}
		l, e := climb.Way(y, from, to, donkey)
		c, f := climb.Toil(y, from, to, donkey)
		if !slices.Equal(l, want.links) || e != errorOf(all) || c != want.toil() || f != e {
			t.Error(l, e, c, f, want)
		}
	})
}

// P3.9: nor is a walk before it that comes to a place again and again.
func TestWayOfStrolls(t *testing.T) {
	r := &dice{state: 21}
	for range 20000 {
		y := r.town(5, 10)
		a := r.stroll(y, r.one(y.Places), r.upTo(0, 12))
		to, c, e := climb.Walk(y, a.places[0], a.links)
		if to != a.last() || c != a.toil() || e != api.OK {
			t.Fatal(y, a, to, c, e)
		}
		l, e := climb.Way(y, a.places[0], to, false)
		_, least, f := climb.Walk(y, a.places[0], l)
		best, g := climb.Toil(y, a.places[0], to, false)
		if e != api.OK || f != api.OK || g != api.OK || best != least || comparedToils(c, least) < 0 {
			t.Fatal(y, a, l, e, least, f, best, g)
		}
	}
}

// P3.10: to go by a place between is never less, and each piece of a way is one.
func TestPiecesOfWays(t *testing.T) {
	r := &dice{state: 4}
	pieces := 0
	for range 4000 {
		y := r.town(7, 14)
		donkey := r.upTo(0, 2) == 0
		a, b, c := r.one(y.Places), r.one(y.Places), r.one(y.Places)
		one, e := climb.Toil(y, a, b, donkey)
		other, f := climb.Toil(y, b, c, donkey)
		if e != api.OK || f != api.OK {
			continue
		}
		straight, e := climb.Toil(y, a, c, donkey)
		if e != api.OK || comparedToils(toil(one.Steps+other.Steps, one.Paces+other.Paces), straight) < 0 {
			t.Fatal(y, a, b, c, donkey, straight, e)
		}
		l, _ := climb.Way(y, a, c, donkey)
		for i := range l {
			for j := i; j <= len(l); j++ {
				from, _, _ := climb.Walk(y, a, l[:i])
				to, _, _ := climb.Walk(y, a, l[:j])
				if piece, e := climb.Way(y, from, to, donkey); !slices.Equal(piece, l[i:j]) || e != api.OK {
					t.Fatal(y, l, i, j, piece, e)
				}
				pieces++
			}
		}
	}
	if pieces < 5000 {
		t.Error("too few pieces:", pieces)
	}
}

// P3.2: all places to which a walk leads, and no others.
func TestReachOfAllPlaces(t *testing.T) {
	small(t, 2000, 7, 9, func(y api.Town, from, _ int, donkey bool, _ []trip, _ *dice) {
		var want []int
		for _, place := range y.Places {
			if len(trips(y, from, place, donkey)) > 0 {
				want = append(want, place)
			}
		}
		if l, e := climb.Reach(y, from, donkey); !slices.Equal(l, want) || e != api.OK {
			t.Error(l, e, want)
		}
	})
}

// P3.3, P3.11: what is told is in each walk, and without any other one there is a walk.
func TestNeedAndGateOfAllWalks(t *testing.T) {
	told := 0
	small(t, 5000, 6, 9, func(y api.Town, from, to int, donkey bool, all []trip, _ *dice) {
		var links, places []int
		for _, x := range y.Links {
			if len(all) > 0 && !slices.ContainsFunc(all, func(a trip) bool { return !slices.Contains(a.links, x.Id) }) {
				links = append(links, x.Id)
			}
		}
		for _, place := range y.Places {
			if len(all) > 0 && place != from && place != to && !slices.ContainsFunc(all, func(a trip) bool { return !slices.Contains(a.places, place) }) {
				places = append(places, place)
			}
		}
		l, e := climb.Need(y, from, to, donkey)
		k, f := climb.Gate(y, from, to, donkey)
		if !slices.Equal(l, links) || e != errorOf(all) || !slices.Equal(k, places) || f != e {
			t.Error(l, e, k, f, links, places)
		}
		told += len(links) + len(places)
	})
	if told < 1000 {
		t.Error("too few are needed:", told)
	}
}

// P3.4, P3.16: the dearest link to close.
func TestWorstOfAllLinks(t *testing.T) {
	kinds := map[api.Errno]int{}
	small(t, 4000, 5, 9, func(y api.Town, from, to int, donkey bool, _ []trip, _ *dice) {
		want, c, f := worstOf(y, from, to, donkey)
		if id, worst, e := climb.Worst(y, from, to, donkey); id != want || worst != c || e != f {
			t.Error(id, worst, e, want, c, f)
		}
		kinds[f]++
	})
	if kinds[api.OK] < 500 || kinds[api.ErrNone] < 500 {
		t.Error("too few of a kind:", kinds)
	}
}

// P3.5, P3.13: no order has less toil, and of several the first one is told; with a stop left out it is never more.
func TestRoundOfAllOrders(t *testing.T) {
	kinds := map[api.Errno]int{}
	small(t, 2500, 5, 10, func(y api.Town, base, _ int, donkey bool, _ []trip, r *dice) {
		stops := r.stops(y, base, 4)
		want, least, f := roundOf(y, base, stops, donkey)
		l, c, e := climb.Round(y, base, stops, donkey)
		if !slices.Equal(l, want) || c != least || e != f {
			t.Error("Round", stops, l, c, e, want, least, f)
		}
		own, f := orderOf(y, base, stops, donkey)
		if c, e := climb.Order(y, base, stops, donkey); c != own || e != f {
			t.Error("Order", stops, c, e, own, f)
		}
		kinds[e]++
		for i := range stops {
			fewer := slices.Delete(slices.Clone(stops), i, i+1)
			if _, some, f := climb.Round(y, base, fewer, donkey); e == api.OK && (comparedToils(some, c) > 0 || f != api.OK) {
				t.Error("with a stop left out", stops, i, some, f)
			}
		}
	})
	if kinds[api.OK] < 500 || kinds[api.ErrNone] < 300 {
		t.Error("too few of a kind:", kinds)
	}
}

// P3.5, P3.13: six stops, the orders of which are all asked for.
func TestRoundOfSixStops(t *testing.T) {
	r := &dice{state: 6}
	for range 4 {
		y := row(7)
		for id := range 10 {
			y.Links = append(y.Links, r.link(y.Places, 10+id))
		}
		stops := ints(7, 2, 6, 3, 5, 4)
		l, c, e := climb.Round(y, 1, stops, false)
		var want []int
		for _, order := range orders(stops) {
			some, f := climb.Order(y, 1, order, false)
			if f != api.OK || comparedToils(some, c) < 0 {
				t.Fatal(y, order, some, f)
			}
			if some == c && want == nil {
				want = order
			}
		}
		if !slices.Equal(l, want) || e != api.OK {
			t.Error(y, l, c, e, want)
		}
	}
}

// P3.6, P3.14: no walk surely loses less, and a skin holds what is told.
func TestWetOfAllWalks(t *testing.T) {
	dearer := 0
	small(t, 6000, 6, 12, func(y api.Town, from, to int, donkey bool, all []trip, r *dice) {
		s := r.skin()
		l, n, e := climb.Wet(y, s, from, to, donkey)
		if len(all) == 0 {
			if len(l) != 0 || n != 0 || e != api.ErrNone {
				t.Error(l, n, e)
			}
			return
		}
		want := bestOf(all, func(a trip) int { return a.drops(s).Hi })
		if !slices.Equal(l, want.links) || n != max(0, s.Drops-want.drops(s).Hi) || e != api.OK {
			t.Error(s, l, n, e, want)
		}
		if want.toil() != wayOf(all).toil() {
			dearer++
		}
		for _, a := range all {
			x := a.drops(s)
			holds := span(max(0, s.Drops-x.Hi), max(0, s.Drops-x.Lo))
			if y, e := climb.End(y, s, from, a.links); y != holds || e != api.OK || y.Lo > n {
				t.Error(s, a, y, e)
			}
		}
	})
	if dearer < 200 {
		t.Error("too few are not the way:", dearer)
	}
}

// P3.7: no walk surely takes less, and the way takes as long as is told.
func TestQuickOfAllWalks(t *testing.T) {
	dearer := 0
	small(t, 6000, 6, 12, func(y api.Town, from, to int, donkey bool, all []trip, r *dice) {
		g := r.gait()
		l, x, e := climb.Quick(y, g, from, to, donkey)
		m, f := climb.Minutes(y, g, from, to, donkey)
		if len(all) == 0 {
			if len(l) != 0 || (x != api.Span{}) || e != api.ErrNone || (m != api.Span{}) || f != api.ErrNone {
				t.Error(l, x, e, m, f)
			}
			return
		}
		want, way := bestOf(all, func(a trip) int { return a.seconds(g).Hi }), wayOf(all)
		if !slices.Equal(l, want.links) || x != want.seconds(g) || e != api.OK {
			t.Error(g, l, x, e, want)
		}
		s := way.seconds(g)
		if m.Lo*60 > s.Lo || m.Lo*60+60 <= s.Lo || m.Hi*60 < s.Hi || m.Hi*60-60 >= s.Hi || f != api.OK {
			t.Error(g, m, f, s)
		}
		if want.toil() != way.toil() {
			dearer++
		}
		for _, a := range all {
			if s, e := climb.Seconds(y, g, from, a.links); s != a.seconds(g) || e != api.OK {
				t.Error(g, a, s, e)
			}
		}
	})
	if dearer < 100 {
		t.Error("too few are not the way:", dearer)
	}
}

// P3.12: a link more never adds toil, a link less never takes any off, and a donkey never has less.
func TestMoreLinksAndDonkeys(t *testing.T) {
	changed := 0
	small(t, 4000, 6, 10, func(y api.Town, from, to int, donkey bool, _ []trip, r *dice) {
		before, e := climb.Toil(y, from, to, donkey)
		// checkMore checks that the first one has no less toil than the other one, if there is a walk.
		checkMore := func(what string, a api.Toil, e api.Errno, b api.Toil, f api.Errno) {
			if e == api.OK && (f != api.OK || comparedToils(a, b) < 0) {
				t.Error(what, a, e, b, f)
			}
			if a != b || e != f {
				changed++
			}
		}
		if len(y.Places) > 1 {
			more, h := climb.Open(y, r.link(y.Places, 9000))
			after, f := climb.Toil(more, from, to, donkey)
			if h != api.OK {
				t.Error("Open", h)
			}
			checkMore("a link more", before, e, after, f)
		}
		for _, x := range y.Links {
			less, h := climb.Close(y, ints(x.Id))
			after, f := climb.Toil(less, from, to, donkey)
			if h != api.OK {
				t.Error("Close", h)
			}
			checkMore("a link less", after, f, before, e)
		}
		with, e := climb.Toil(y, from, to, true)
		alone, f := climb.Toil(y, from, to, false)
		checkMore("a donkey", with, e, alone, f)
	})
	if changed < 1000 {
		t.Error("too few links matter:", changed)
	}
}

// P3.15: of two walks one behind the other toil, losses and times add up.
func TestOneBehindTheOther(t *testing.T) {
	added := func(a, b api.Span) api.Span { return span(a.Lo+b.Lo, a.Hi+b.Hi) }
	r := &dice{state: 15}
	for range 6000 {
		y := r.town(6, 10)
		a := r.stroll(y, r.one(y.Places), r.upTo(0, 20))
		b := r.stroll(y, a.last(), r.upTo(0, 20))
		both := append(slices.Clone(a.links), b.links...)
		from, s, g := a.places[0], r.skin(), r.gait()
		s.Drops = api.MaxSkin
		_, one, _ := climb.Walk(y, from, a.links)
		_, other, _ := climb.Walk(y, a.last(), b.links)
		to, c, e := climb.Walk(y, from, both)
		if to != b.last() || c != toil(one.Steps+other.Steps, one.Paces+other.Paces) || e != api.OK {
			t.Fatal(y, a, b, to, c, e)
		}
		// What is left of a skin from which nothing is missing yet tells what it lost.
		lost := func(from int, l []int) api.Span {
			x, _ := climb.End(y, s, from, l)
			return span(s.Drops-x.Hi, s.Drops-x.Lo)
		}
		if x := lost(from, both); x != added(lost(from, a.links), lost(a.last(), b.links)) || x.Hi == s.Drops {
			t.Fatal(y, a, b, s, x)
		}
		x, _ := climb.Seconds(y, g, from, a.links)
		z, _ := climb.Seconds(y, g, a.last(), b.links)
		if all, e := climb.Seconds(y, g, from, both); all != added(x, z) || e != api.OK {
			t.Fatal(y, a, b, g, all, e)
		}
	}
}

// P3.6, P3.14: a skin that may run dry on the way holds at the end what it would hold link by link.
func TestEndLinkByLink(t *testing.T) {
	r := &dice{state: 16}
	dry := 0
	for range 6000 {
		y := r.town(5, 8)
		a := r.stroll(y, r.one(y.Places), r.upTo(0, 12))
		s := r.skin()
		least, most := s, s
		for i, id := range a.links {
			x, _ := climb.End(y, least, a.places[i], ints(id))
			z, _ := climb.End(y, most, a.places[i], ints(id))
			least.Drops, most.Drops = x.Lo, z.Hi
		}
		if x, e := climb.End(y, s, a.places[0], a.links); x != span(least.Drops, most.Drops) || e != api.OK {
			t.Fatal(y, a, s, x, e)
		}
		if least.Drops == 0 && most.Drops > 0 {
			dry++
		}
	}
	if dry < 200 {
		t.Error("too few may run dry:", dry)
	}
}

// R7, P3.9: in the greatest town each call ends, too, and the way is before all other walks.
func TestGreatestTown(t *testing.T) {
	y := great()
	g := given{from: 9991, to: 9996, walk: slices.Repeat(ints(9980), 40), stops: ints(9999, 9992, 9998, 9993, 9997, 9994), links: ints(9980), skin: skin(100000), gait: gait(), link: link(1, 9991, 9992, 0, 1)}
	for _, c := range calls(g) {
		if z := c.run(y); z.e != api.OK && c.name != "Open" {
			t.Error(c.name, z)
		}
	}
	for _, to := range y.Places {
		want := wayOf(trips(y, 9991, to, false))
		l, e := climb.Way(y, 9991, to, false)
		c, f := climb.Toil(y, 9991, to, false)
		if !slices.Equal(l, want.links) || e != api.OK || c != want.toil() || f != api.OK {
			t.Error(to, l, e, c, f, want)
		}
	}
}
