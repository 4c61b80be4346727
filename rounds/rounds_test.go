package rounds_test

import (
	"slices"
	"testing"

	"aguador/api"
	"aguador/rounds"
)

// P6.1: what is valid, up to each limit and beyond it.
func TestCheck(t *testing.T) {
	bad := api.ErrRounds
	no := api.OK
	bare := func(r *api.Rounds) { r.Homes, r.Carriers = nil, nil }
	put := func(x api.Home) change { return func(r *api.Rounds) { r.Homes[1] = x; r.Carriers = nil } }
	hire := func(x api.Carrier) change { return func(r *api.Rounds) { r.Carriers[1] = x } }
	seen := func(day int) change {
		return func(r *api.Rounds) { r.Homes[1].Jar.Sights = []api.Sight{{Id: 1, Day: day, Pints: span(0, 6)}} }
	}
	for i, x := range []struct {
		e       api.Errno
		changes []change
	}{
		{no, nil}, {no, []change{torn(0, 1)}}, {no, []change{free(0, 1)}}, {no, []change{bare}}, {no, []change{func(r *api.Rounds) { *r = great() }}}, {bad, []change{func(r *api.Rounds) { *r = api.Rounds{} }}},
		{bad, []change{func(r *api.Rounds) { r.Town.Links[0].Steps = 501 }}}, {bad, []change{func(r *api.Rounds) { r.Town.Places = ints(1, 3, 2) }}}, {bad, []change{bare, func(r *api.Rounds) { r.Town = api.Town{} }}}, {no, []change{bare, func(r *api.Rounds) { r.Town = api.Town{Places: ints(9999)} }}},
		{no, []change{days(0, 1)}}, {no, []change{days(2, 1)}}, {no, []change{days(1, 2)}}, {bad, []change{days(0, 4)}}, {bad, []change{days(1, 3)}}, {bad, []change{days(3, 1)}}, {bad, []change{days(0, 0)}}, {bad, []change{days(0, -1)}}, {bad, []change{days(-1, 1)}}, {bad, []change{days(-1, 3)}}, {bad, []change{days(0, huge)}}, {bad, []change{days(huge, 3)}}, {bad, []change{days(huge, huge)}}, {bad, []change{days(low, 3)}}, {bad, []change{days(0, low)}}, {bad, []change{days(low, huge)}}, {bad, []change{days(2, huge)}},
		{no, []change{bare, days(0, 4)}}, {no, []change{bare, days(9, 4)}}, {bad, []change{bare, days(10, 1)}}, {bad, []change{bare, days(0, 5)}}, {bad, []change{bare, days(0, 0)}}, {bad, []change{bare, days(-1, 4)}}, {bad, []change{bare, days(huge, 4)}}, {bad, []change{bare, days(low, 4)}}, {bad, []change{bare, days(3, huge)}},
		{no, []change{pints(1)}}, {no, []change{pints(20)}}, {bad, []change{pints(21)}}, {bad, []change{pints(0)}}, {bad, []change{pints(-1)}}, {bad, []change{pints(huge)}}, {bad, []change{pints(low)}}, {bad, []change{bare, pints(0)}}, {bad, []change{bare, pints(21)}},
		{no, []change{put(home(11, 1, wants(0)))}}, {no, []change{put(home(9999, 3, wants(6)))}}, {bad, []change{put(home(10, 3, wants(4)))}}, {bad, []change{put(home(9, 3, wants(4)))}}, {bad, []change{put(home(20, 3, over(2, wants(4))))}}, {no, []change{put(home(20, 3, over(10, wants(4))))}}, {bad, []change{put(home(20, 3, over(11, wants(4))))}},
		{bad, []change{seen(0)}}, {bad, []change{seen(2)}}, {no, []change{days(1, 2), seen(0)}}, {bad, []change{days(1, 2), seen(1)}}, {bad, []change{days(1, 2), seen(2)}}, {no, []change{days(2, 1), seen(1)}}, {bad, []change{days(2, 1), seen(2)}}, {bad, []change{days(1, 2), seen(-1)}},
		{no, []change{homes(home(10, 1, wants(0)), home(20, 1, wants(0)), home(30, 1, wants(0)), home(40, 1, wants(0)))}}, {bad, []change{homes(home(10, 1, wants(0)), home(20, 1, wants(0)), home(30, 1, wants(0)), home(40, 1, wants(0)), home(50, 1, wants(0)))}}, {no, []change{homes(home(1, 1, wants(0))), carriers()}}, {no, []change{homes(home(9999, 1, wants(0))), carriers()}}, {bad, []change{homes(home(9999, 1, wants(0)))}},
		{no, []change{carriers()}}, {no, []change{hire(carrier(9999, 3, 4))}}, {no, []change{hire(carrier(2, 3, 1, 10))}}, {bad, []change{hire(carrier(1, 3, 1))}}, {bad, []change{hire(carrier(9, 3, 0))}}, {bad, []change{hire(carrier(9, 3, 5))}}, {bad, []change{hire(carrier(9, 4, 1))}}, {bad, []change{hire(carrier(9, 3, 1, 20, 10))}}, {bad, []change{hire(carrier(9, 3, 1, 20, 20))}}, {bad, []change{hire(carrier(9, 3, 1, 10, 20, 30))}},
		{no, []change{carriers(carrier(1, 1, 1), carrier(2, 1, 1), carrier(3, 1, 1))}}, {bad, []change{carriers(carrier(1, 1, 1), carrier(2, 1, 1), carrier(3, 1, 1), carrier(4, 1, 1))}}, {bad, []change{carriers(carrier(2, 1, 1), carrier(1, 1, 1))}},
	} {
		checkAll(t, i, chapter(x.changes...), x.e)
	}
	for i, x := range badHomes() {
		checkAll(t, i, chapter(homes(x), carriers()), bad)
	}
	for i, x := range badCarriers() {
		checkAll(t, i, chapter(carriers(x)), bad)
	}
}

// badHomes are those that are not valid in the chapter's rounds, also if there is no other one.
func badHomes() []api.Home {
	var l []api.Home
	for _, n := range ints(0, -1, 10000, low, huge) {
		l = append(l, home(n, 1, wants(0)))
	}
	for _, n := range ints(0, -1, 4, low, huge) {
		l = append(l, home(5, n, wants(0)))
	}
	for _, n := range ints(-1, 7, low, huge) {
		l = append(l, home(5, 1, wants(n)))
	}
	for _, n := range ints(2, 1, 0, -1, 11, low, huge) {
		l = append(l, home(5, 1, over(n, wants(0))))
	}
	j := wants(0)
	j.May = api.KnownYes
	return append(l, home(5, 1, j), api.Home{})
}

// badCarriers are those that are not valid in the chapter's rounds, also if there is no other one.
func badCarriers() []api.Carrier {
	var l []api.Carrier
	for _, n := range ints(0, -1, 10000, low, huge) {
		l = append(l, carrier(n, 1, 1), donkey(n, 1, 1, 10))
	}
	for _, n := range ints(0, -1, 4, low, huge) {
		l = append(l, carrier(5, n, 1))
	}
	for _, n := range ints(0, -1, 5, low, huge) {
		l = append(l, carrier(5, 1, n))
	}
	for _, n := range ints(0, -1, 1, 11, low, huge) {
		l = append(l, carrier(5, 1, 1, n), carrier(5, 1, 1, 10, n))
	}
	return append(l, carrier(5, 1, 1, 10, 10), carrier(5, 1, 1, 20, 10), carrier(5, 1, 1, 10, 20, 20), api.Carrier{})
}

// checkAll checks that rounds are valid, or that each call says that they are not.
func checkAll(t *testing.T, i int, r api.Rounds, e api.Errno) {
	t.Helper()
	if f := rounds.Check(r); f != e {
		t.Error(i, f)
	}
	if e == api.OK {
		return
	}
	for _, c := range calls(given{route: ints(0), days: ints(-1), plan: lists(nil)}) {
		if z := c.run(r); z.e != e || !z.isZero() {
			t.Error(i, c.name, z)
		}
	}
}

// P6.1, R1, R5: errors in their order, whatever the numbers are.
func TestErrors(t *testing.T) {
	zero := lists(ints(0, 0), ints(0, 0), ints(0, 0))
	odd := ints(0, -1, 3, 11, 9999, low, huge)
	for _, r := range []api.Rounds{chapter(), chapter(torn(0)), chapter(torn(0, 1)), chapter(free(0), torn(0))} {
		for _, n := range odd {
			g := given{home: n, carrier: n, route: ints(n), days: ints(n), plan: lists(ints(n))}
			expect(t, r, g, api.ErrNone, "Route", "Dry", "Needs", "Without", "Served", "Drop", "Dismiss")
			expect(t, r, given{carrier: 1, route: ints(n)}, api.ErrRoute, "Route")
			expect(t, r, given{carrier: 2, route: ints(10, n)}, api.ErrRoute, "Route")
			if n != 0 {
				expect(t, r, given{home: 10, days: ints(n)}, api.ErrPlan, "Dry")
			}
		}
		for _, l := range [][]int{{3}, {0, 3}, {1, 0}, {1, 1}, {0, 1, 2, 2}, {0, 1, 2, 3}, {0, huge}, {low, 0}} {
			expect(t, r, given{home: 10, days: l}, api.ErrPlan, "Dry")
		}
		for _, p := range [][][]int{nil, zero[:2], append(zero, ints(0, 0)), lists(nil, nil, nil), lists(ints(0, 0), ints(0, 0), ints(0)), lists(ints(0, 0, 0), ints(0, 0), ints(0, 0))} {
			expect(t, r, given{home: 10, plan: p}, api.ErrPlan, "Breaks", "Judge", "Served", "Left")
		}
		for _, n := range ints(-1, 3, low, huge) {
			expect(t, r, given{home: 20, plan: lists(ints(0, 0), ints(0, 0), ints(0, n))}, api.ErrPlan, "Judge", "Served", "Left")
		}
	}
	// A jar that has no truth, of a home that pays or does not.
	for _, r := range []api.Rounds{chapter(torn(0)), chapter(torn(0), free(0)), chapter(torn(0), carriers(carrier(1, 1, 1)))} {
		expect(t, r, given{home: 10, carrier: 1, plan: zero}, api.ErrBad, "Dry", "Needs", "Plan", "Fails", "Fewest", "Without", "Judge")
		expect(t, r, given{home: 20, carrier: 1, route: ints(10, 20), plan: zero}, api.OK, "Route", "Needs", "Dry", "Served", "Left", "Drop", "Dismiss")
		expect(t, r, given{plan: zero}, api.ErrNone, "Breaks")
	}
	last := chapter(torn(1))
	expect(t, last, given{home: 20, carrier: 2, plan: zero}, api.ErrBad, "Dry", "Needs", "Plan", "Fails", "Fewest", "Without", "Judge")
	expect(t, last, given{home: 10}, api.OK, "Dry", "Needs")
	four := chapter(homes(home(10, 1, wants(0)), home(20, 1, wants(0)), home(30, 1, wants(0)), home(40, 1, wants(0))))
	expect(t, four, given{put: home(0, 0, wants(-1))}, api.ErrFull, "Put")
	expect(t, chapter(carriers(carrier(1, 1, 1), carrier(2, 1, 1), carrier(3, 1, 1))), given{hire: carrier(0, 0, 0)}, api.ErrFull, "Hire")
}

// P6.2: the chapter's examples, homes at one place and at the base, and ways that are no ways for a donkey.
func TestRoute(t *testing.T) {
	at := func(places ...int) change {
		return func(r *api.Rounds) {
			r.Homes = nil
			for i, place := range places {
				r.Homes = append(r.Homes, home(10*i+10, place, wants(3)))
			}
		}
	}
	base := func(i, place int) change { return func(r *api.Rounds) { r.Carriers[i].Base = place } }
	ring := func(r *api.Rounds) {
		r.Town.Links = []api.Link{{Id: 1, From: 1, To: 2, Paces: 10}, {Id: 2, From: 2, To: 3, Paces: 10}, {Id: 3, From: 3, To: 1, Paces: 10}}
	}
	island := func(r *api.Rounds) { r.Town.Links = r.Town.Links[1:2] }
	for i, x := range []struct {
		r       api.Rounds
		carrier int
		route   []int
		want    []int
		toil    api.Toil
		e       api.Errno
	}{
		{chapter(), 1, ints(10, 20), ints(20, 10), toil(20, 150), api.OK}, {chapter(), 1, ints(10), ints(10), toil(20, 150), api.OK}, {chapter(), 1, ints(20), ints(20), toil(0, 200), api.OK}, {chapter(), 2, ints(10), nil, toil(0, 0), api.ErrNone}, {chapter(), 2, ints(20), ints(20), toil(0, 200), api.OK}, {chapter(), 1, nil, nil, toil(0, 0), api.OK}, {chapter(), 2, ints(), nil, toil(0, 0), api.OK},
		// Homes at the base are gone to first, those at one place by their Ids.
		{chapter(at(1, 1)), 1, ints(10, 20), ints(10, 20), toil(0, 0), api.OK}, {chapter(at(3, 1)), 1, ints(10, 20), ints(20, 10), toil(0, 200), api.OK}, {chapter(at(3, 1)), 1, ints(20), ints(20), toil(0, 0), api.OK}, {chapter(at(3, 3)), 1, ints(10, 20), ints(10, 20), toil(0, 200), api.OK}, {chapter(at(2, 1, 3, 2)), 1, ints(10, 20, 30, 40), ints(20, 30, 10, 40), toil(20, 150), api.OK}, {chapter(at(2, 1, 3, 2)), 1, ints(10, 20, 40), ints(20, 10, 40), toil(20, 150), api.OK}, {chapter(at(2, 1, 3, 2), base(0, 2)), 1, ints(10, 20, 30, 40), ints(10, 40, 20, 30), toil(20, 150), api.OK},
		{chapter(base(0, 3)), 1, ints(10, 20), ints(20, 10), toil(20, 20), api.OK}, {chapter(base(0, 2)), 1, ints(10, 20), ints(10, 20), toil(20, 20), api.OK}, {chapter(base(0, 2)), 1, ints(10), ints(10), toil(0, 0), api.OK},
		// Both ways round are as long: that by the place with the less Id comes first.
		{chapter(ring, at(3, 2)), 1, ints(10, 20), ints(20, 10), toil(0, 30), api.OK}, {chapter(ring, at(3, 2)), 2, ints(10, 20), ints(20, 10), toil(0, 30), api.OK}, {chapter(ring, at(3, 2, 2, 3)), 1, ints(10, 20, 30, 40), ints(20, 30, 10, 40), toil(0, 30), api.OK}, {chapter(ring, at(1, 2), base(0, 3)), 1, ints(10, 20), ints(10, 20), toil(0, 30), api.OK},
		// With a donkey, and without: custom is not regarded.
		{chapter(at(3, 3, 3)), 2, ints(10, 20, 30), ints(10, 20, 30), toil(0, 200), api.OK}, {chapter(), 2, ints(10, 20), nil, toil(0, 0), api.ErrNone}, {chapter(base(1, 2)), 2, ints(10), ints(10), toil(0, 0), api.OK}, {chapter(base(1, 2)), 2, ints(20), nil, toil(0, 0), api.ErrNone}, {chapter(island), 1, ints(20), ints(20), toil(0, 200), api.OK}, {chapter(island), 1, ints(10), nil, toil(0, 0), api.ErrNone}, {chapter(island), 1, ints(10, 20), nil, toil(0, 0), api.ErrNone}, {chapter(carriers(carrier(1, 1, 1))), 1, ints(10, 20), ints(20, 10), toil(20, 150), api.OK}, {chapter(free(0, 1), torn(0, 1)), 1, ints(10, 20), ints(20, 10), toil(20, 150), api.OK},
		{chapter(), 1, ints(20, 10), nil, toil(0, 0), api.ErrRoute}, {chapter(), 1, ints(10, 10), nil, toil(0, 0), api.ErrRoute}, {chapter(), 2, ints(10, 10), nil, toil(0, 0), api.ErrRoute}, {chapter(), 1, ints(10, 20, 30), nil, toil(0, 0), api.ErrRoute}, {chapter(at()), 1, ints(10), nil, toil(0, 0), api.ErrRounds}, {chapter(at(), carriers(carrier(1, 2, 1))), 1, nil, nil, toil(0, 0), api.OK},
	} {
		l, u, e := rounds.Route(x.r, x.carrier, x.route)
		if !slices.Equal(l, x.want) || u != x.toil || e != x.e {
			t.Error(i, l, u, e)
		}
	}
}

// brim is a jar of two pints over four days, full at first, of which one is wanted each day: it runs over unless something is brought when it is empty.
func brim() api.Jar {
	return api.Jar{Full: 2, Days: 4, Start: span(2, 2), Use: span(1, 1), Week: span(0, 35)}
}

// P6.3: the chapter's examples, homes that have enough or never, days that are not regarded, and lists of more than one length.
func TestDryAndNeeds(t *testing.T) {
	none := -1
	two := lists(ints(0, 1), ints(0, 2), ints(1, 2))
	one := lists(ints(0), ints(1), ints(2))
	gone := wants(6)
	gone.Use, gone.May, gone.Start = span(3, 3), api.KnownOpen, span(0, 6)
	for i, x := range []struct {
		r     api.Rounds
		home  int
		days  []int
		dry   int
		needs [][]int
	}{
		{chapter(), 10, nil, 1, two}, {chapter(), 10, ints(), 1, two}, {chapter(), 10, ints(0), 2, two}, {chapter(), 10, ints(1), 2, two}, {chapter(), 10, ints(2), 1, two}, {chapter(), 10, ints(0, 2), none, two}, {chapter(), 10, ints(0, 1, 2), none, two}, {chapter(), 20, nil, 2, one}, {chapter(), 20, ints(2), none, one}, {chapter(), 20, ints(0, 1), none, one},
		{chapter(free(0)), 10, ints(1), 2, two}, {chapter(torn(1)), 10, ints(1), 2, two}, {chapter(carriers()), 20, ints(1), none, one}, {chapter(pints(1)), 20, ints(1), 2, lists(ints(0, 1), ints(0, 2), ints(1, 2))}, {chapter(pints(1)), 10, ints(0, 2), 2, lists(ints(0, 1, 2))}, {chapter(pints(3)), 10, ints(0), none, one[:2]}, {chapter(pints(20)), 10, ints(1), none, one[:2]},
		{chapter(jars(wants(6))), 10, nil, none, lists(nil)}, {chapter(jars(wants(0))), 10, ints(1, 2), 0, lists(ints(0, 1, 2))}, {chapter(jars(wants(1)), pints(1)), 10, ints(0, 1, 2), 1, nil}, {chapter(jars(wants(0)), pints(1)), 10, ints(0, 1, 2), 0, nil}, {chapter(jars(gone), pints(3)), 10, ints(0, 2), 1, lists(ints(0, 1, 2))},
		// What is later than the days is not regarded.
		{chapter(days(0, 1)), 10, nil, none, lists(nil)}, {chapter(days(0, 2)), 10, nil, 1, lists(ints(0), ints(1))}, {chapter(days(0, 2)), 20, nil, none, lists(nil)}, {chapter(days(0, 2)), 10, ints(1), none, lists(ints(0), ints(1))}, {chapter(days(1, 2)), 10, ints(1), 2, lists(ints(1, 2))}, {chapter(days(1, 2)), 20, nil, 2, lists(ints(1), ints(2))}, {chapter(days(1, 1)), 10, nil, 1, lists(ints(1))}, {chapter(days(2, 1)), 20, nil, 2, lists(ints(2))},
		// It may have run dry before the first one of the days.
		{chapter(days(2, 1)), 10, nil, 1, nil}, {chapter(days(2, 1)), 10, ints(2), 1, nil}, {chapter(days(2, 1), pints(20), jars(wants(1))), 10, ints(2), 0, nil}, {chapter(days(1, 2), jars(wants(1))), 10, ints(1, 2), 0, nil},
		// It can be enough on one day, or on two others.
		{chapter(days(0, 4), homes(home(10, 1, brim())), carriers()), 10, ints(1), 3, lists(ints(2), ints(1, 3))}, {chapter(days(0, 4), homes(home(10, 1, brim())), carriers()), 10, ints(0, 3), 2, lists(ints(2), ints(1, 3))}, {chapter(days(1, 3), homes(home(10, 1, brim())), carriers()), 10, ints(1, 3), none, lists(ints(2), ints(1, 3))}, {chapter(days(0, 3), homes(home(10, 1, brim())), carriers()), 10, nil, 2, lists(ints(1), ints(2))},
		{great(), 9999, nil, 9, lists(ints(6), ints(7), ints(8), ints(9))}, {chapter(days(9, 1), homes(home(10, 1, over(10, brim()))), carriers()), 10, ints(9), 2, nil},
	} {
		e, f := api.OK, api.OK
		if x.dry == none {
			x.dry, e = 0, api.ErrNone
		}
		if x.needs == nil {
			f = api.ErrNone
		}
		n, g := rounds.Dry(x.r, x.home, x.days)
		l, h := rounds.Needs(x.r, x.home)
		if n != x.dry || g != e || !sameLists(l, x.needs) || h != f {
			t.Error(i, n, g, l, h)
		}
	}
}

// goods are rounds of which there is a good plan, with it, its toil, and the fewest skins of any.
type goods struct {
	r      api.Rounds
	plan   [][]int
	toil   api.Toil
	fewest int
}

// P6.4: the chapter's example; what decides between good plans is the toil, then the skins, then the first number.
func TestPlan(t *testing.T) {
	alone := func(skins int) change { return carriers(carrier(1, 1, skins, 10, 20)) }
	// Both homes are at the base, with one skin a day: the first one needs it by the day 2, the second one on 2, or on 1 and 3.
	fast := func(place int) change {
		j := brim()
		j.Full = 6
		return homes(home(10, place, j), home(20, place, brim()))
	}
	// The first home is on the way to the second one, which is served on 1 and 3 whatever is done.
	j := brim()
	j.Use, j.Brings = span(2, 2), []api.Bring{{Day: 2, Pints: 2}}
	twice := homes(home(10, 3, brim()), home(20, 3, j))
	for i, x := range []goods{
		{chapter(), lists(ints(0, 0), ints(1, 0), ints(1, 1)), toil(40, 300), 3}, {chapter(free(0)), lists(ints(0, 0), ints(0, 0), ints(0, 1)), toil(0, 200), 1}, {chapter(free(1)), lists(ints(0, 0), ints(1, 0), ints(1, 0)), toil(40, 300), 2}, {chapter(free(0, 1)), lists(ints(0, 0), ints(0, 0), ints(0, 0)), toil(0, 0), 0}, {chapter(free(0, 1), carriers()), lists(ints(0, 0), ints(0, 0), ints(0, 0)), toil(0, 0), 0}, {chapter(homes(), carriers()), lists(nil, nil, nil), toil(0, 0), 0}, {chapter(days(1, 1), jars(wants(6), wants(6))), lists(ints(0, 0)), toil(0, 0), 0},
		// Of a donkey and a carrier with two skins: who climbs nothing, or whose number is less.
		{chapter(jars(wants(6))), lists(ints(0, 0), ints(0, 0), ints(0, 1)), toil(0, 200), 1}, {chapter(jars(wants(6)), carriers(carrier(1, 2, 2, 20), donkey(2, 1, 1, 20))), lists(ints(0, 0), ints(0, 0), ints(0, 2)), toil(0, 200), 1}, {chapter(carriers(carrier(1, 1, 2, 10), carrier(2, 1, 2, 10, 20))), lists(ints(0, 0), ints(1, 0), ints(2, 2)), toil(40, 300), 3}, {chapter(carriers(carrier(1, 1, 1, 10, 20), carrier(2, 1, 1, 10, 20))), lists(ints(0, 0), ints(1, 0), ints(1, 2)), toil(40, 500), 3},
		{chapter(alone(1)), lists(ints(0, 1), ints(1, 0), ints(1, 0)), toil(40, 500), 3}, {chapter(alone(2)), lists(ints(0, 0), ints(1, 0), ints(1, 1)), toil(40, 300), 3}, {chapter(days(0, 2)), lists(ints(0, 0), ints(1, 0)), toil(20, 150), 1}, {chapter(days(1, 2)), lists(ints(1, 0), ints(1, 1)), toil(40, 300), 3}, {chapter(pints(3)), lists(ints(0, 0), ints(1, 1), ints(0, 0)), toil(20, 150), 2},
		// Skins count before numbers do, and toil before skins.
		{chapter(days(0, 4), fast(1), alone(1)), lists(ints(0, 0), ints(1, 0), ints(0, 1), ints(0, 0)), toil(0, 0), 2}, {chapter(days(0, 4), fast(1), alone(2)), lists(ints(0, 0), ints(0, 0), ints(1, 1), ints(0, 0)), toil(0, 0), 2}, {chapter(days(0, 4), fast(3), alone(1)), lists(ints(0, 0), ints(1, 0), ints(0, 1), ints(0, 0)), toil(0, 400), 2}, {chapter(days(0, 4), twice, alone(2)), lists(ints(0, 0), ints(1, 1), ints(0, 0), ints(1, 1)), toil(0, 400), 3}, {chapter(days(0, 4), twice, alone(1)), lists(ints(0, 0), ints(0, 1), ints(1, 0), ints(0, 1)), toil(0, 600), 3},
		// A home that does not pay may run dry, before the days, too.
		{chapter(days(1, 2), jars(wants(1), wants(6)), free(0)), lists(ints(0, 0), ints(0, 0)), toil(0, 0), 0}, {chapter(alone(1), jars(wants(2), wants(2)), pints(4)), lists(ints(0, 1), ints(1, 0), ints(0, 0)), toil(20, 350), 2},
		// One carrier goes round by four links that are no stairs up, another one has the last home at the base.
		{great(), lists(ints(0, 0, 0, 0), ints(0, 0, 0, 0), ints(0, 0, 0, 0), ints(9997, 9997, 9997, 9999)), toil(0, 8000), 4},
	} {
		l, u, e := rounds.Plan(x.r)
		n, f := rounds.Fewest(x.r)
		if !sameLists(l, x.plan) || u != x.toil || e != api.OK || n != x.fewest || f != api.OK {
			t.Error(i, l, u, e, n, f)
		}
		expect(t, x.r, given{}, api.ErrNone, "Fails")
	}
}

// P6.4: the chapter's examples, and carriers that are not needed.
func TestWithout(t *testing.T) {
	same := carriers(carrier(1, 1, 2, 10, 20), carrier(4, 1, 2, 10, 20), donkey(9, 1, 1, 20))
	for i, x := range []struct {
		r       api.Rounds
		carrier int
		toil    api.Toil
		e       api.Errno
	}{
		{chapter(), 2, toil(40, 300), api.OK}, {chapter(), 1, toil(0, 0), api.ErrNone}, {chapter(), 3, toil(0, 0), api.ErrNone}, {chapter(same), 1, toil(40, 300), api.OK}, {chapter(same), 4, toil(40, 300), api.OK}, {chapter(same), 9, toil(40, 300), api.OK}, {chapter(free(0)), 1, toil(0, 200), api.OK}, {chapter(free(0)), 2, toil(0, 200), api.OK}, {chapter(free(0, 1)), 1, toil(0, 0), api.OK}, {chapter(jars(wants(0), wants(0)), pints(1)), 2, toil(0, 0), api.ErrNone},
		{chapter(carriers(carrier(1, 1, 1, 10, 20), donkey(2, 1, 1, 20))), 2, toil(40, 500), api.OK}, {chapter(carriers(carrier(1, 1, 1, 10), carrier(2, 2, 1, 10), donkey(5, 3, 1, 20))), 2, toil(40, 300), api.OK}, {chapter(carriers(carrier(1, 1, 1, 10), carrier(2, 2, 1, 10), donkey(5, 3, 1, 20))), 1, toil(0, 0), api.OK}, {chapter(carriers(carrier(1, 1, 1, 10), carrier(2, 2, 1, 10), donkey(5, 3, 1, 20))), 5, toil(0, 0), api.ErrNone},
	} {
		if u, e := rounds.Without(x.r, x.carrier); u != x.toil || e != x.e {
			t.Error(i, u, e)
		}
	}
}

// P6.5, P6.11: the chapter's example; of all plans those by which it goes well longest, and all homes that may run dry then.
func TestFails(t *testing.T) {
	alone := carriers(carrier(1, 1, 1, 10, 20))
	low := jars(wants(2), wants(2))
	for i, x := range []struct {
		r     api.Rounds
		day   int
		homes []int
	}{
		{chapter(carriers(carrier(1, 1, 2, 20), donkey(2, 1, 1, 20))), 1, ints(10)}, {chapter(carriers()), 1, ints(10)}, {chapter(carriers(), free(0)), 2, ints(20)}, {chapter(carriers(), jars(wants(4), wants(3))), 1, ints(20)}, {chapter(carriers(), jars(wants(3), wants(3))), 1, ints(10, 20)}, {chapter(carriers(donkey(1, 1, 2, 10, 20))), 1, ints(10)},
		// One skin a day for both: without the last one of three the one or the other may run dry.
		{chapter(alone, jars(wants(3), wants(2))), 2, ints(10, 20)}, {chapter(alone, low), 2, ints(10, 20)}, {chapter(alone, low, pints(1)), 1, ints(10, 20)}, {chapter(alone, jars(wants(1), wants(1))), 0, ints(10, 20)}, {chapter(alone, jars(wants(1), wants(4))), 2, ints(10, 20)}, {chapter(alone, jars(wants(1), wants(5))), 2, ints(10, 20)},
		// It may have run dry before the days, whatever is done then.
		{chapter(days(2, 1)), 1, ints(10)}, {chapter(days(1, 2), jars(wants(1), wants(0))), 0, ints(10, 20)}, {chapter(days(2, 1), jars(wants(3), wants(1))), 0, ints(20)},
	} {
		n, l, e := rounds.Fails(x.r)
		if n != x.day || !slices.Equal(l, x.homes) || e != api.OK {
			t.Error(i, n, l, e)
		}
		expect(t, x.r, given{}, api.ErrNone, "Plan", "Fewest")
	}
}

// four has four homes, of which the second one is where no donkey comes: two carriers, and two donkeys in one, with custom for all homes.
func four(skins int) api.Rounds {
	l := homes(home(10, 3, wants(6)), home(20, 2, wants(6)), home(30, 3, wants(6)), home(40, 1, wants(6)))
	all := ints(10, 20, 30, 40)
	return chapter(l, carriers(carrier(1, 1, skins, 10, 20, 40), donkey(5, 1, skins, all...), donkey(7, 3, skins, all...)))
}

// P6.6, P6.14: the chapter's example; days in their order, of a day the first three rules by homes, then the fourth one by carriers.
func TestBreaks(t *testing.T) {
	none := ints(0, 0, 0, 0)
	for i, x := range []struct {
		skins           int
		plan            [][]int
		day, home, rule int
	}{
		{4, lists(none, none, none), 0, 0, 0}, {4, lists(ints(1, 1, 5, 7), ints(5, 1, 5, 5), ints(7, 0, 7, 1)), 0, 0, 0}, {1, lists(ints(1, 0, 5, 7), ints(0, 1, 7, 5), ints(5, 0, 7, 1)), 0, 0, 0}, {2, lists(ints(5, 1, 5, 1), ints(7, 0, 7, 5), ints(7, 1, 5, 7)), 0, 0, 0},
		{4, lists(ints(2, 0, 0, 0), none, none), 0, 10, 1}, {4, lists(none, ints(0, 0, 0, 6), none), 1, 40, 1}, {4, lists(none, none, ints(0, -1, 9, 0)), 2, 20, 1}, {4, lists(ints(0, 0, low, 0), ints(huge, 0, 0, 0), none), 0, 30, 1}, {4, lists(none, ints(0, huge, 0, 0), ints(9, 9, 9, 9)), 1, 20, 1}, {4, lists(ints(10, 20, 30, 40), none, none), 0, 10, 1},
		{4, lists(ints(0, 0, 1, 0), none, none), 0, 30, 2}, {4, lists(none, none, ints(5, 1, 1, 9)), 2, 30, 2}, {4, lists(ints(0, 0, 1, 9), none, none), 0, 30, 2}, {4, lists(ints(9, 0, 1, 0), none, none), 0, 10, 1},
		{1, lists(ints(5, 0, 5, 0), none, none), 0, 30, 3}, {1, lists(ints(1, 1, 0, 1), none, none), 0, 20, 3}, {2, lists(ints(1, 1, 0, 1), none, none), 0, 40, 3}, {3, lists(ints(5, 5, 5, 5), none, none), 0, 40, 3}, {3, lists(none, ints(7, 7, 7, 7), none), 1, 40, 3}, {1, lists(ints(5, 5, 1, 9), none, none), 0, 20, 3}, {1, lists(ints(5, 9, 5, 0), none, none), 0, 20, 1}, {1, lists(ints(1, 5, 1, 1), none, none), 0, 30, 2}, {1, lists(ints(1, 0, 0, 0), ints(1, 0, 0, 0), ints(1, 0, 0, 1)), 2, 40, 3},
		// The fourth rule: of the first carrier whose route cannot be gone the first home, be it one to which a way leads.
		{4, lists(ints(0, 5, 0, 0), none, none), 0, 20, 4}, {4, lists(ints(5, 5, 0, 0), none, none), 0, 10, 4}, {4, lists(ints(0, 7, 7, 0), none, none), 0, 20, 4}, {4, lists(ints(7, 7, 5, 5), none, none), 0, 10, 4}, {4, lists(ints(1, 5, 5, 1), none, ints(0, 7, 0, 0)), 0, 20, 4}, {4, lists(none, ints(5, 1, 5, 5), ints(0, 7, 7, 0)), 2, 20, 4},
		{4, lists(ints(0, 5, 0, 9), none, none), 0, 40, 1}, {4, lists(ints(0, 5, 1, 0), none, none), 0, 30, 2}, {1, lists(ints(0, 5, 0, 5), none, none), 0, 40, 3}, {4, lists(ints(0, 5, 0, 0), ints(9, 0, 0, 0), none), 0, 20, 4}, {4, lists(ints(0, 0, 0, 9), ints(0, 5, 0, 0), none), 0, 40, 1},
	} {
		for from := range 3 {
			r := four(x.skins)
			r.From = from
			for i := range r.Homes {
				r.Homes[i].Jar.Days = 5
				r.Homes[i].Pays = from == 0
			}
			e, f := api.OK, api.ErrPlan
			day := x.day + from
			if x.rule == 0 {
				e, f, day = api.ErrNone, api.OK, 0
			}
			a, b, c, g := rounds.Breaks(r, x.plan)
			if a != day || b != x.home || c != x.rule || g != e {
				t.Error(i, from, a, b, c, g)
			}
			expect(t, r, given{plan: x.plan, home: 10}, f, "Judge", "Served", "Left")
		}
	}
	// Of two donkeys that come to no home the first one counts, not the first home.
	r := chapter(carriers(donkey(3, 1, 1, 10, 20), donkey(4, 2, 1, 10, 20)), homes(home(10, 3, wants(6)), home(20, 2, wants(6))))
	a, b, c, e := rounds.Breaks(r, lists(ints(4, 3), ints(0, 0), ints(0, 0)))
	if a != 0 || b != 20 || c != 4 || e != api.OK {
		t.Error(a, b, c, e)
	}
}

// P6.6: the chapter's examples; homes that do not pay may be served, and may run dry.
func TestJudge(t *testing.T) {
	zero := lists(ints(0, 0), ints(0, 0), ints(0, 0))
	good := lists(ints(0, 0), ints(1, 0), ints(1, 1))
	for i, x := range []struct {
		r         api.Rounds
		plan      [][]int
		toil      api.Toil
		home, day int
	}{
		{chapter(), lists(ints(1, 1), ints(0, 0), ints(0, 0)), toil(20, 150), 10, 2}, {chapter(), good, toil(40, 300), 0, 0}, {chapter(), zero, toil(0, 0), 10, 1}, {chapter(), lists(ints(1, 1), ints(1, 0), ints(1, 2)), toil(60, 650), 0, 0}, {chapter(), lists(ints(1, 2), ints(0, 2), ints(1, 2)), toil(40, 900), 0, 0}, {chapter(), lists(ints(1, 0), ints(1, 0), ints(0, 0)), toil(40, 300), 20, 2}, {chapter(), lists(ints(0, 0), ints(0, 2), ints(1, 1)), toil(20, 350), 10, 1},
		// Of several on one day that with the least Id; of several days the first one.
		{chapter(jars(wants(4), wants(4))), zero, toil(0, 0), 10, 2}, {chapter(jars(wants(4), wants(3))), zero, toil(0, 0), 20, 1}, {chapter(jars(wants(3), wants(3))), zero, toil(0, 0), 10, 1}, {chapter(jars(wants(0), wants(0))), lists(ints(1, 0), ints(1, 0), ints(1, 0)), toil(60, 450), 20, 0}, {chapter(jars(wants(0), wants(0))), lists(ints(0, 1), ints(0, 0), ints(0, 0)), toil(0, 200), 10, 0},
		{chapter(free(0)), zero, toil(0, 0), 20, 2}, {chapter(free(1)), zero, toil(0, 0), 10, 1}, {chapter(free(0, 1)), zero, toil(0, 0), 0, 0}, {chapter(free(0, 1)), good, toil(40, 300), 0, 0}, {chapter(free(0)), lists(ints(1, 0), ints(0, 0), ints(0, 0)), toil(20, 150), 20, 2},
		{chapter(days(1, 2)), lists(ints(0, 0), ints(0, 0)), toil(0, 0), 10, 1}, {chapter(days(1, 2)), lists(ints(1, 1), ints(0, 0)), toil(20, 150), 10, 2}, {chapter(days(1, 2), jars(wants(1))), lists(ints(1, 1), ints(1, 0)), toil(40, 300), 10, 0}, {chapter(days(0, 1)), lists(ints(0, 0)), toil(0, 0), 0, 0}, {chapter(days(2, 1), jars(wants(4))), lists(ints(1, 0)), toil(20, 150), 20, 2}, {chapter(homes(), carriers()), lists(nil, nil, nil), toil(0, 0), 0, 0},
	} {
		u, a, b, e := rounds.Judge(x.r, x.plan)
		if u != x.toil || a != x.home || b != x.day || e != api.OK {
			t.Error(i, u, a, b, e)
		}
	}
}

// P6.7, P6.15: the chapter's examples, and jars of which there is no truth.
func TestServedAndLeft(t *testing.T) {
	zero := lists(ints(0, 0), ints(0, 0), ints(0, 0))
	good := lists(ints(0, 0), ints(1, 0), ints(1, 1))
	for i, x := range []struct {
		r    api.Rounds
		plan [][]int
		home int
		days []int
		left []int
	}{
		{chapter(), good, 20, ints(2), ints(3, 3)}, {chapter(), good, 10, ints(1, 2), ints(3, 3)}, {chapter(), zero, 10, nil, ints(6, 3)}, {chapter(), lists(ints(1, 2), ints(1, 2), ints(1, 2)), 20, ints(0, 1, 2), ints(3, 0)}, {chapter(), lists(ints(1, 1), ints(1, 1), ints(1, 1)), 10, ints(0, 1, 2), ints(0, 3)}, {chapter(), lists(ints(0, 2), ints(0, 0), ints(0, 1)), 20, ints(0, 2), ints(5, 2)},
		{chapter(torn(0, 1)), good, 10, ints(1, 2), ints(3, 3)}, {chapter(free(0, 1)), good, 10, ints(1, 2), ints(3, 3)}, {chapter(days(1, 2)), lists(ints(0, 1), ints(1, 2)), 20, ints(1, 2), ints(2, 1)}, {chapter(days(2, 1)), lists(ints(1, 1)), 20, ints(2), ints(0, 1)}, {chapter(carriers()), zero, 20, nil, nil}, {chapter(carriers(carrier(3, 2, 4))), zero, 20, nil, ints(12)},
	} {
		l, e := rounds.Served(x.r, x.plan, x.home)
		m, f := rounds.Left(x.r, x.plan)
		if !slices.Equal(l, x.days) || e != api.OK || !slices.Equal(m, x.left) || f != api.OK {
			t.Error(i, l, e, m, f)
		}
	}
}
