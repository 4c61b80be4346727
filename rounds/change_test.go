package rounds_test

import (
	"slices"
	"testing"

	"aguador/api"
	"aguador/rounds"
)

// seen is a home with a jar that has a sight on a day, and something that is brought.
func seen(h api.Home, day int) api.Home {
	h.Jar.Sights = []api.Sight{{Id: 4, Day: day, Pints: span(0, 6)}}
	h.Jar.Brings = []api.Bring{{Day: 0, Pints: 1}}
	return h
}

// P6.8: a home is put in its place.
func TestPut(t *testing.T) {
	full := chapter(homes(home(10, 1, wants(3)), home(20, 1, wants(3)), home(30, 1, wants(3)), home(40, 1, wants(3))))
	poor := home(15, 2, wants(0))
	poor.Pays = false
	for i, x := range []struct {
		r  api.Rounds
		x  api.Home
		at int
		e  api.Errno
	}{
		{chapter(), home(15, 1, wants(3)), 1, api.OK}, {chapter(), home(1, 3, wants(3)), 0, api.OK}, {chapter(), home(9999, 2, over(10, wants(6))), 2, api.OK}, {chapter(), poor, 1, api.OK}, {chapter(homes(), carriers()), home(7, 1, wants(3)), 0, api.OK}, {chapter(torn(0)), home(15, 1, wants(3)), 1, api.OK}, {chapter(days(1, 2)), seen(home(15, 1, wants(3)), 0), 1, api.OK}, {chapter(homes(full.Homes[:3]...)), full.Homes[3], 3, api.OK},
		{chapter(), seen(home(15, 1, wants(3)), 0), 0, api.ErrHome}, {chapter(days(1, 2)), seen(home(15, 1, wants(3)), 1), 0, api.ErrHome}, {chapter(), home(10, 2, wants(3)), 0, api.ErrHome}, {chapter(), home(20, 2, wants(3)), 0, api.ErrHome}, {full, home(15, 1, wants(3)), 0, api.ErrFull}, {full, home(10, 1, wants(3)), 0, api.ErrFull}, {full, api.Home{}, 0, api.ErrFull}, {chapter(homes(full.Homes[:3]...)), full.Homes[2], 0, api.ErrHome},
	} {
		checkPut(t, i, x.r, x.x, x.at, x.e)
	}
	for i, x := range badHomes() {
		checkPut(t, i, chapter(), x, 0, api.ErrHome)
		checkPut(t, i, chapter(homes(), carriers()), x, 0, api.ErrHome)
		checkPut(t, i, full, x, 0, api.ErrFull)
	}
	// A jar of which there is no truth is valid.
	y, e := rounds.Put(chapter(), chapter(torn(0), homes(home(15, 1, wants(3))), torn(0)).Homes[0])
	if e != api.OK || len(y.Homes) != 3 {
		t.Error(y, e)
	}
}

func checkPut(t *testing.T, i int, r api.Rounds, x api.Home, at int, e api.Errno) {
	t.Helper()
	want := api.Rounds{}
	if e == api.OK {
		want = r
		want.Homes = slices.Insert(slices.Clone(r.Homes), at, x)
	}
	if y, f := rounds.Put(r, x); !same(y, want) || f != e {
		t.Error(i, y, f)
	}
}

// P6.8: a carrier is put in its place.
func TestHire(t *testing.T) {
	full := chapter(carriers(carrier(1, 1, 1), carrier(2, 1, 1, 20), donkey(5, 1, 1)))
	for i, x := range []struct {
		r  api.Rounds
		x  api.Carrier
		at int
		e  api.Errno
	}{
		{chapter(), carrier(3, 3, 4, 10, 20), 2, api.OK}, {chapter(), donkey(9999, 2, 1, 10), 2, api.OK}, {chapter(carriers(carrier(4, 1, 1), carrier(9, 1, 1))), carrier(6, 1, 1), 1, api.OK}, {chapter(carriers(carrier(4, 1, 1), carrier(9, 1, 1))), donkey(1, 1, 1), 0, api.OK}, {chapter(carriers()), carrier(1, 1, 1), 0, api.OK}, {chapter(homes(), carriers()), carrier(7, 1, 4), 0, api.OK}, {chapter(torn(0)), carrier(3, 3, 4, 20), 2, api.OK},
		{chapter(), carrier(1, 1, 1), 0, api.ErrCarrier}, {chapter(), carrier(2, 1, 1), 0, api.ErrCarrier}, {chapter(homes(), carriers()), carrier(7, 1, 4, 10), 0, api.ErrCarrier}, {full, carrier(3, 1, 1), 0, api.ErrFull}, {full, carrier(1, 1, 1), 0, api.ErrFull}, {full, api.Carrier{}, 0, api.ErrFull},
	} {
		checkHire(t, i, x.r, x.x, x.at, x.e)
	}
	for i, x := range badCarriers() {
		checkHire(t, i, chapter(), x, 0, api.ErrCarrier)
		checkHire(t, i, chapter(carriers()), x, 0, api.ErrCarrier)
		checkHire(t, i, full, x, 0, api.ErrFull)
	}
}

func checkHire(t *testing.T, i int, r api.Rounds, x api.Carrier, at int, e api.Errno) {
	t.Helper()
	want := api.Rounds{}
	if e == api.OK {
		want = r
		want.Carriers = slices.Insert(slices.Clone(r.Carriers), at, x)
	}
	if y, f := rounds.Hire(r, x); !same(y, want) || f != e {
		t.Error(i, y, f)
	}
}

// P6.8: a home goes out of all districts, too; a carrier goes alone.
func TestDropAndDismiss(t *testing.T) {
	three := homes(home(10, 1, wants(3)), home(20, 2, wants(4)), home(30, 3, wants(5)))
	gang := carriers(carrier(1, 1, 2, 10, 20, 30), donkey(2, 1, 1, 20), carrier(3, 2, 4, 10, 30))
	for i, x := range []struct {
		r    api.Rounds
		home int
		want change
	}{
		{chapter(), 20, func(r *api.Rounds) {
			homes(home(10, 2, wants(3)))(r)
			carriers(carrier(1, 1, 2, 10), donkey(2, 1, 1))(r)
		}},
		{chapter(three, gang), 10, func(r *api.Rounds) {
			homes(home(20, 2, wants(4)), home(30, 3, wants(5)))(r)
			carriers(carrier(1, 1, 2, 20, 30), donkey(2, 1, 1, 20), carrier(3, 2, 4, 30))(r)
		}},
		{chapter(three, gang), 30, func(r *api.Rounds) {
			homes(home(10, 1, wants(3)), home(20, 2, wants(4)))(r)
			carriers(carrier(1, 1, 2, 10, 20), donkey(2, 1, 1, 20), carrier(3, 2, 4, 10))(r)
		}},
		{chapter(homes(home(10, 1, wants(3))), carriers(carrier(1, 1, 2, 10))), 10, func(r *api.Rounds) {
			homes()(r)
			carriers(carrier(1, 1, 2))(r)
		}},
		{chapter(torn(0), carriers()), 20, func(r *api.Rounds) {
			homes(home(10, 2, wants(3)))(r)
			torn(0)(r)
			carriers()(r)
		}},
	} {
		if y, e := rounds.Drop(x.r, x.home); !same(y, chapter(x.want)) || e != api.OK {
			t.Error(i, y, e)
		}
	}
	for i, x := range []struct {
		r       api.Rounds
		carrier int
		want    []api.Carrier
	}{
		{chapter(), 1, []api.Carrier{donkey(2, 1, 1, 20)}}, {chapter(), 2, []api.Carrier{carrier(1, 1, 2, 10, 20)}}, {chapter(carriers(carrier(1, 1, 2), carrier(2, 1, 2), carrier(3, 1, 2))), 2, []api.Carrier{carrier(1, 1, 2), carrier(3, 1, 2)}}, {chapter(carriers(carrier(4, 1, 2, 10))), 4, nil},
	} {
		if y, e := rounds.Dismiss(x.r, x.carrier); !same(y, chapter(carriers(x.want...))) || e != api.OK {
			t.Error(i, y, e)
		}
	}
	expect(t, chapter(), given{home: 30, carrier: 3}, api.ErrNone, "Drop", "Dismiss")
	expect(t, chapter(homes(), carriers()), given{home: 10, carrier: 1}, api.ErrNone, "Drop", "Dismiss")
}

// spare returns a list with memory behind its end.
func spare[T any](l []T) []T { return append(make([]T, 0, len(l)+2), l...) }

// roomy is rounds with memory behind the ends of their lists, which must stay as it is.
func roomy() api.Rounds {
	r := chapter()
	for i := range r.Homes {
		j := seen(r.Homes[i], 0).Jar
		j.Sights, j.Brings = spare(j.Sights), spare(j.Brings)
		r.Homes[i].Jar = over(5, j)
	}
	for i := range r.Carriers {
		r.Carriers[i].Homes = spare(r.Carriers[i].Homes)
	}
	r.From = 1
	r.Town = api.Town{Places: spare(r.Town.Places), Links: spare(r.Town.Links)}
	r.Homes, r.Carriers = spare(r.Homes), spare(r.Carriers)
	return r
}

func upToEnd[T any](l []T) []T { return l[:cap(l)] }

// toEnds shows the memory of all lists up to its end.
func toEnds(r api.Rounds) api.Rounds {
	r.Town = api.Town{Places: upToEnd(r.Town.Places), Links: upToEnd(r.Town.Links)}
	r.Homes, r.Carriers = slices.Clone(upToEnd(r.Homes)), slices.Clone(upToEnd(r.Carriers))
	for i := range r.Homes {
		j := &r.Homes[i].Jar
		j.Sights, j.Brings = upToEnd(j.Sights), upToEnd(j.Brings)
	}
	for i := range r.Carriers {
		r.Carriers[i].Homes = upToEnd(r.Carriers[i].Homes)
	}
	return r
}

// fill writes over all memory of a list.
func fill[T any](l []T, x T) {
	for i := range upToEnd(l) {
		upToEnd(l)[i] = x
	}
}

// spoil writes over all memory of what was told, list by list, so that none may share any with another one.
func (a told) spoil() {
	fill(a.l, 77)
	for _, l := range a.all {
		fill(l, 77)
	}
	fill(a.all, nil)
	r := toEnds(a.r)
	for i := range r.Homes {
		fill(r.Homes[i].Jar.Sights, api.Sight{Id: 77})
		fill(r.Homes[i].Jar.Brings, api.Bring{Pints: 77})
	}
	for i := range r.Carriers {
		fill(r.Carriers[i].Homes, 77)
	}
	fill(a.r.Homes, api.Home{})
	fill(a.r.Carriers, api.Carrier{})
	fill(a.r.Town.Places, 77)
	fill(a.r.Town.Links, api.Link{})
}

// full asks for something of rounds that are roomy.
func full(list func(l ...int) []int) given {
	put := seen(home(15, 1, over(5, wants(3))), 0)
	put.Jar.Sights, put.Jar.Brings = spare(put.Jar.Sights), spare(put.Jar.Brings)
	return given{
		home: 10, carrier: 1, route: list(10, 20), days: list(1, 3), plan: [][]int{list(1, 0), list(0, 0), list(1, 1)},
		put: put, hire: carrier(9, 2, 3, list(10, 20)...),
	}
}

func (g given) equal(h given) bool {
	return slices.Equal(upToEnd(g.route), upToEnd(h.route)) && slices.Equal(upToEnd(g.days), upToEnd(h.days)) &&
		slices.EqualFunc(g.plan, h.plan, func(a, b []int) bool { return slices.Equal(upToEnd(a), upToEnd(b)) }) &&
		same(toEnds(chapter(homes(g.put), carriers(g.hire))), toEnds(chapter(homes(h.put), carriers(h.hire))))
}

// R3: no argument is written to, nothing is remembered, and no result shares memory with an argument or with another one.
func TestValues(t *testing.T) {
	list := func(l ...int) []int { return spare(l) }
	r, g := roomy(), full(list)
	unchanged := func() bool { return same(toEnds(r), toEnds(roomy())) && g.equal(full(list)) }
	if !unchanged() {
		t.Fatal("roomy rounds differ")
	}
	fresh := calls(full(list))
	for i, c := range calls(g) {
		a := c.run(r)
		b := c.run(r)
		want := fresh[i].run(roomy())
		if !a.equal(want) || !b.equal(want) || a.e != api.OK && a.e != api.ErrNone {
			t.Error(c.name, a, b, want)
		}
		if !unchanged() {
			t.Error(c.name, "writes", toEnds(r), g)
		}
		a.spoil()
		if !unchanged() || !b.equal(want) {
			t.Error(c.name, "shares memory", b)
		}
		if z := c.run(r); !z.equal(want) {
			t.Error(c.name, "remembers", z)
		}
	}
}

// R3: no two lists of one result share memory.
func TestListsOfAResult(t *testing.T) {
	plan, _, e := rounds.Plan(chapter(free(0)))
	fill(plan[0], 77)
	if e != api.OK || !slices.Equal(plan[1], ints(0, 0)) || !slices.Equal(plan[2], ints(0, 1)) {
		t.Error(plan, e)
	}
	needs, e := rounds.Needs(chapter(), 10)
	fill(needs[0], 77)
	if e != api.OK || !sameLists(needs[1:], lists(ints(0, 2), ints(1, 2))) {
		t.Error(needs, e)
	}
	y, e := rounds.Hire(chapter(carriers(carrier(1, 1, 1, 10, 20))), carrier(2, 1, 1, 10, 20))
	fill(y.Carriers[0].Homes, 77)
	if e != api.OK || !slices.Equal(y.Carriers[1].Homes, ints(10, 20)) {
		t.Error(y, e)
	}
}

// R4: a nil list and an empty one are the same.
func TestNilAndEmpty(t *testing.T) {
	g := given{home: 10, carrier: 1, put: home(15, 1, wants(3)), hire: carrier(9, 1, 1)}
	without := calls(g)
	g.route, g.days, g.plan = ints(), ints(), [][]int{}
	g.put.Jar.Sights, g.put.Jar.Brings, g.hire.Homes = []api.Sight{}, []api.Bring{}, ints()
	with := calls(g)
	for _, r := range []api.Rounds{{}, chapter(), chapter(homes(), carriers()), chapter(carriers(carrier(1, 1, 1)))} {
		empty := chapter(func(x *api.Rounds) { *x = r })
		empty.Homes, empty.Carriers = append([]api.Home{}, r.Homes...), append([]api.Carrier{}, r.Carriers...)
		for i := range empty.Homes {
			empty.Homes[i].Jar.Sights, empty.Homes[i].Jar.Brings = []api.Sight{}, []api.Bring{}
		}
		for i := range empty.Carriers {
			empty.Carriers[i].Homes = append(ints(), empty.Carriers[i].Homes...)
		}
		for i := range with {
			if a, b := with[i].run(empty), without[i].run(r); !a.equal(b) {
				t.Error(with[i].name, a, b)
			}
		}
	}
	bare := chapter(homes(), carriers())
	for _, plan := range [][][]int{{nil, nil, nil}, {{}, nil, {}}} {
		expect(t, bare, given{plan: plan}, api.OK, "Judge", "Left")
		expect(t, bare, given{plan: plan}, api.ErrNone, "Breaks")
	}
}

// R5, R6, R7: whatever the arguments are, each call ends, and does not panic.
func TestAnyValue(t *testing.T) {
	d := &dice{state: 3}
	odd := ints(low, low+1, -1, 0, 1, 2, 3, 4, 5, 6, 9, 10, 11, 20, 21, 9999, 10000, huge-1, huge)
	near := func(l ...int) int {
		if d.upTo(0, 14) == 0 {
			return d.one(odd)
		}
		return d.one(l)
	}
	answered := 0
	for range 3000 {
		r := roomy()
		for _, p := range []*int{&r.From, &r.Days, &r.Pints, &r.Town.Places[0], &r.Town.Links[0].To, &r.Town.Links[1].Steps, &r.Town.Links[2].Paces, &r.Homes[0].Id, &r.Homes[1].Id, &r.Homes[0].Place, &r.Homes[0].Jar.Full, &r.Homes[0].Jar.Days, &r.Homes[1].Jar.Sights[0].Day, &r.Homes[1].Jar.Brings[0].Day, &r.Carriers[0].Id, &r.Carriers[1].Base, &r.Carriers[0].Skins, &r.Carriers[0].Homes[0], &r.Carriers[1].Homes[0]} {
			if d.upTo(0, 60) == 0 {
				*p = d.one(odd)
			}
		}
		g := given{
			home: near(10, 20), carrier: near(1, 2), route: ints(near(10), near(20)), days: ints(near(1, 2), near(3)),
			plan: lists(ints(near(0, 1), near(0, 1, 2)), ints(near(0, 1), near(0, 1, 2)), ints(near(0, 1), near(0, 1, 2))),
			put:  home(near(15), near(1, 2, 3), over(near(4, 5), wants(near(3)))), hire: donkey(near(9), near(1, 2, 3), near(1, 2), near(10), near(20)),
		}
		for _, c := range calls(g) {
			z := c.run(r)
			if (z.e == api.ErrRounds) != (rounds.Check(r) == api.ErrRounds) || z.e != api.OK && !z.isZero() {
				t.Fatal(c.name, r, g, z)
			}
			if !same(z.r, api.Rounds{}) && rounds.Check(z.r) != api.OK {
				t.Fatal(c.name, r, g, z)
			}
			if z.e == api.OK && c.name != "Check" {
				answered++
			}
		}
	}
	if answered < 10000 {
		t.Error("too few calls answer:", answered)
	}
}

// R7: lists however long are looked at, and each call ends.
func TestLongLists(t *testing.T) {
	many := slices.Repeat(ints(10), 1<<20)
	rising := make([]int, 1<<20)
	for i := range rising {
		rising[i] = i
	}
	for _, l := range [][]int{many, rising} {
		g := given{home: 10, carrier: 1, route: l, days: l, plan: lists(l, l, l), hire: carrier(9, 1, 1, l...)}
		expect(t, chapter(), g, api.ErrRoute, "Route")
		expect(t, chapter(), g, api.ErrPlan, "Dry", "Breaks", "Judge", "Served", "Left")
		expect(t, chapter(), g, api.ErrCarrier, "Hire")
		g.plan = slices.Repeat(lists(ints(0, 0)), 1<<20)
		expect(t, chapter(), g, api.ErrPlan, "Breaks", "Judge", "Served", "Left")
		checkAll(t, 0, chapter(carriers(carrier(1, 1, 1, l...))), api.ErrRounds)
	}
	checkAll(t, 1, chapter(homes(slices.Repeat([]api.Home{home(10, 1, wants(3))}, 1<<16)...)), api.ErrRounds)
	checkAll(t, 2, chapter(carriers(slices.Repeat([]api.Carrier{carrier(1, 1, 1)}, 1<<20)...)), api.ErrRounds)
	checkAll(t, 3, chapter(func(r *api.Rounds) { r.Town.Places = rising }), api.ErrRounds)
}
