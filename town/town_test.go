package town_test

import (
	"slices"
	"testing"

	"aguador/api"
	"aguador/town"
)

// P9.1: what is valid, up to each limit and beyond it.
func TestCheck(t *testing.T) {
	for i, s := range []api.Supply{
		chapter(), dry(), full(), supply(stills(0)), supply([]api.Fount{still(9999, 100)}), supply([]api.Fount{still(1, 0), still(9999, 0)}), supply(stills(1, 2, 3, 4)), supply(stills(1), street(9999, 0, 0, 0)), supply(stills(1), street(1, 0, 100, 0, 1)), supply(stills(1), street(1, 100, 100, 100, 1)), supply(stills(1, 2), street(1, 0, 0, 0), street(2, 0, 0, 0)), supply(stills(1, 2), api.Street{Id: 1, Draws: ints()}), supply(stills(1, 2, 3), street(1, 0, 0, 0, 3), street(2, 0, 0, 0, 1, 3)),
	} {
		if e := town.Check(s); e != api.OK {
			t.Error(i, s, e)
		}
	}
	for i, s := range []api.Supply{
		odd(), {Founts: []api.Fount{}}, {Streets: streets(street(1, 0, 0, 0))}, supply(stills(1, 2, 3, 4, 5)), supply([]api.Fount{still(2, 1), still(1, 1)}), supply([]api.Fount{still(1, 1), still(1, 1)}), supply([]api.Fount{still(1, 1), still(3, 1), still(2, 1)}), supply([]api.Fount{{Id: 1}}), supply([]api.Fount{still(1, 1), {Id: 2}}),
		supply(stills(1), street(1, 0, 0, 0), street(2, 0, 0, 0), street(3, 0, 0, 0), street(4, 0, 0, 0), street(5, 0, 0, 0), street(6, 0, 0, 0)), supply(stills(1), street(2, 0, 0, 0), street(1, 0, 0, 0)), supply(stills(1), street(2, 0, 0, 0), street(2, 0, 0, 0)), supply(stills(1), street(1, 0, 0, 0), street(3, 0, 0, 0), street(2, 0, 0, 0)),
		supply(stills(1), street(1, 0, 0, 0, 1, 1)), supply(stills(1, 2), street(1, 0, 0, 0, 2, 1)), supply(stills(1, 2), street(1, 0, 0, 0, 1, 2, 2)), supply(stills(1, 2), street(1, 0, 0, 0, 1, 2, 3)), supply(stills(1, 2), street(1, 0, 0, 0, 0, 1)), supply(stills(1, 2, 3), street(1, 0, 0, 0, 1, 3, 2)), supply(stills(1, 2), street(1, 0, 0, 0), street(2, 0, 0, 0, 3)),
	} {
		checkBad(t, i, s)
	}
}

// checkBad checks that each call says that a supply is not valid, whatever else is wrong.
func checkBad(t *testing.T, i any, s api.Supply) {
	t.Helper()
	for _, g := range []given{{}, {week: -1, shares: ints(-1), fount: -1, street: -1, jars: make([]api.Jar, 9), day: -1}, {shares: ints(0, 0, 0), fount: 1, street: 1, jars: jars(wanting(1, 1)), put: street(4, 1, 1, 1, 1)}} {
		for _, c := range calls(g) {
			if z := c.run(s); z.e != api.ErrSupply || !z.isZero() {
				t.Error(i, c.name, s, z)
			}
		}
	}
}

// P9.1, R5: each number of a supply, up to its limits, and beyond them.
func TestCheckNumbers(t *testing.T) {
	for i, x := range []struct {
		number func(s *api.Supply) *int
		good   []int
		bad    []int
	}{
		{func(s *api.Supply) *int { return &s.Founts[0].Id }, ints(1), ints(0, -1, 2, 3, 9999, 10000, huge, low)},
		{func(s *api.Supply) *int { return &s.Founts[1].Id }, ints(2), ints(0, -1, 1, 3, 9999, 10000, huge, low)},
		{func(s *api.Supply) *int { return &s.Founts[0].Spring.Weeks }, ints(3, 4, 10), ints(0, -1, 2, 11, huge, low)},
		{func(s *api.Supply) *int { return &s.Founts[1].Spring.Weeks }, ints(1, 4, 10), ints(0, -1, 11, huge, low)},
		{func(s *api.Supply) *int { return &s.Founts[1].Spring.Most }, ints(0, 100), ints(-1, 101, huge, low)},
		{func(s *api.Supply) *int { return &s.Founts[1].Spring.Readings[0].Week }, ints(0, 3), ints(-1, 4, huge, low)},
		{func(s *api.Supply) *int { return &s.Streets[0].Id }, ints(1), ints(0, -1, 2, 3, 10000, huge, low)},
		{func(s *api.Supply) *int { return &s.Streets[1].Id }, ints(2), ints(0, -1, 1, 3, 10000, huge, low)},
		{func(s *api.Supply) *int { return &s.Streets[2].Id }, ints(3, 4, 9999), ints(0, -1, 1, 2, 10000, huge, low)},
		{func(s *api.Supply) *int { return &s.Streets[0].Need.Lo }, ints(8, 14), ints(7, 0, -1, 15, 100, huge, low)},
		{func(s *api.Supply) *int { return &s.Streets[0].Need.Hi }, ints(10, 11, 100), ints(9, 0, -1, 101, huge, low)},
		{func(s *api.Supply) *int { return &s.Streets[2].Need.Lo }, ints(4, 6), ints(3, 0, -1, 7, huge, low)},
		{func(s *api.Supply) *int { return &s.Streets[2].Need.Hi }, ints(4, 100), ints(3, 0, -1, 101, huge, low)},
		{func(s *api.Supply) *int { return &s.Streets[0].Least }, ints(0, 1, 10), ints(-1, 11, 14, huge, low)},
		{func(s *api.Supply) *int { return &s.Streets[1].Least }, ints(0, 12), ints(-1, 13, huge, low)},
		{func(s *api.Supply) *int { return &s.Streets[0].Draws[0] }, ints(1, 2), ints(0, -1, 3, huge, low)},
		{func(s *api.Supply) *int { return &s.Streets[1].Draws[0] }, ints(1), ints(0, -1, 2, 3, huge, low)},
		{func(s *api.Supply) *int { return &s.Streets[1].Draws[1] }, ints(2), ints(0, -1, 1, 3, huge, low)},
	} {
		change := func(n int) api.Supply {
			return chapter(func(s *api.Supply) { *x.number(s) = n })
		}
		for _, n := range x.good {
			if e := town.Check(change(n)); e != api.OK {
				t.Error(i, n, e)
			}
		}
		for _, n := range x.bad {
			checkBad(t, i, change(n))
		}
	}
	// The Id of a fountain from which none draws may be any that is in its place.
	for _, n := range ints(2, 9999) {
		if e := town.Check(supply([]api.Fount{still(1, 1), still(n, 1)}, street(1, 1, 1, 1, 1))); e != api.OK {
			t.Error(n, e)
		}
	}
	for _, n := range ints(0, -1, 1, 10000, huge, low) {
		checkBad(t, n, supply([]api.Fount{still(1, 1), still(n, 1)}, street(1, 1, 1, 1, 1)))
		if n != 1 {
			checkBad(t, n, supply([]api.Fount{still(n, 1)}))
		}
	}
}

// P9.1, R1: errors in their order, whatever the numbers are.
func TestErrors(t *testing.T) {
	zero, wrong := ints(0, 0, 0), [][]int{nil, {}, {0}, {0, 0}, {0, 0, 0, 0}, {0, 0, -1}, {-1, 0, 0}, {101, 0, 0}, {0, 101, 0}, {huge, 0, 0}, {0, low, 0}, slices.Repeat(ints(0), 1<<20)}
	for _, s := range []api.Supply{chapter(), dry()} {
		good := api.OK
		if !same(s, chapter()) {
			good = api.ErrBad
		}
		for _, week := range ints(-1, 4, 10, huge, low) {
			expect(t, s, given{week: week, shares: zero, fount: 1}, api.ErrTime, append(weekly(), "Pulls", "More")...)
			expect(t, s, given{week: week, shares: ints(-1), fount: 9}, api.ErrTime, append(weekly(), "Pulls", "More")...)
		}
		for week := range 2 {
			expect(t, s, given{week: week, shares: zero, fount: 1}, good, append(weekly(), "Pulls", "More")...)
			for _, l := range wrong {
				expect(t, s, given{week: week, shares: l, fount: 1}, api.ErrShares, "Pulls")
			}
			for _, n := range ints(0, 3, -1, 10000, huge, low) {
				expect(t, s, given{week: week, fount: n}, api.ErrFount, "More")
			}
		}
		for _, n := range ints(0, 4, -1, 9999, 10000, huge, low) {
			expect(t, s, given{street: n, jars: make([]api.Jar, 9), day: -1}, api.ErrStreet, "Count", "Drop")
		}
		expect(t, s, given{street: 1}, api.OK, "Check", "Weeks", "Count", "Drop")
		expect(t, s, given{put: street(4, 1, 1, 1)}, api.OK, "Put")
	}
	expect(t, dry(), given{}, api.ErrBad, "Perhaps", "Surely")
	expect(t, chapter(), given{}, api.OK, "Perhaps")
	expect(t, chapter(), given{}, api.ErrNone, "Surely")
	// One spring without a truth is enough, whichever it is, also if none draws from it.
	for i := range 3 {
		s := supply(stills(5, 5, 5), street(1, 1, 1, 1, 1, 2, 3))
		if i == 2 {
			s.Streets = nil
		}
		s.Founts[i].Spring.Book = append(s.Founts[i].Spring.Book, api.Line{Gives: span(6, 6)})
		expect(t, s, given{fount: 1, shares: make([]int, len(s.Streets))}, api.ErrBad, append(weekly(), "Pulls", "More", "Perhaps", "Surely")...)
	}
}

// P9.2 to P9.7: the chapter's examples.
func TestChapter(t *testing.T) {
	s := chapter()
	if n, e := town.Weeks(s); n != 4 || e != api.OK {
		t.Error(n, e)
	}
	for week, x := range []struct {
		worst, best []int
		most        api.Span
		least       uint8
		proof       []int
	}{
		{ints(26, 10), ints(33, 12), span(26, 40), api.KnownYes, ints(1, 2, 3)}, {ints(18, 8), ints(33, 12), span(26, 40), api.KnownYes, ints(1, 2)}, {ints(10, 6), ints(25, 12), span(16, 37), api.KnownOpen, ints(1)}, {ints(2, 4), ints(25, 12), span(6, 37), api.KnownOpen, ints(1)},
	} {
		a, e := town.Water(s, week, false)
		b, f := town.Water(s, week, true)
		k, g := town.Enough(s, week)
		m, h := town.Most(s, week)
		l, i := town.Least(s, week)
		p, j := town.Proof(s, week, false)
		if !slices.Equal([]api.Errno{e, f, g, h, i, j}, make([]api.Errno, 6)) || !slices.Equal(a, x.worst) || !slices.Equal(b, x.best) || k != api.KnownOpen || m != x.most || l != x.least || !slices.Equal(p, x.proof) {
			t.Error(week, a, b, k, m, l, p)
		}
		expect(t, s, given{week: week, best: true}, api.ErrNone, "Proof")
	}
	if n, e := town.Perhaps(s); n != 0 || e != api.OK {
		t.Error(n, e)
	}
	if l, e := town.Fair(s, 0, false); !slices.Equal(l, ints(14, 16, 6)) || e != api.OK {
		t.Error(l, e)
	}
	expect(t, s, given{week: 3}, api.ErrNone, "Fair")
	want := pulls(pull(1, 1, 14), pull(2, 1, 12), pull(2, 2, 4), pull(3, 2, 6))
	if l, e := town.Pulls(s, 0, false, ints(14, 16, 6)); !slices.Equal(l, want) || e != api.OK {
		t.Error(l, e)
	}
	if l, e := town.Helps(s, 0); !slices.Equal(l, ints(1, 2)) || e != api.OK {
		t.Error(l, e)
	}
	if n, e := town.More(s, 0, 1); n != 4 || e != api.OK {
		t.Error(n, e)
	}
	expect(t, s, given{week: 3, fount: 2}, api.ErrNone, "More")
}

// P9.2: weeks that some springs have only, and streets that need nothing.
func TestWeeks(t *testing.T) {
	ten := api.Spring{Weeks: 10, Most: 9, Fall: 1, Song: span(60, 60), Book: []api.Line{{Week: 9, Gives: span(5, 5)}}}
	s := supply([]api.Fount{{Id: 1, Spring: ten}, gives(2, span(3, 4), span(1, 4))}, street(1, 5, 9, 5, 1), street(2, 0, 3, 0, 2))
	if n, e := town.Weeks(s); n != 2 || e != api.OK {
		t.Error(n, e)
	}
	// What a spring gives in a week that is none of the supply's binds it still.
	if l, e := town.Water(s, 1, false); !slices.Equal(l, ints(5, 1)) || e != api.OK {
		t.Error(l, e)
	}
	if l, e := town.Water(s, 0, true); !slices.Equal(l, ints(9, 4)) || e != api.OK {
		t.Error(l, e)
	}
	expect(t, s, given{week: 2, shares: ints(0, 0), fount: 1}, api.ErrTime, append(weekly(), "Pulls", "More")...)
	s.Founts = s.Founts[:1]
	s.Streets = s.Streets[:1]
	if n, e := town.Weeks(s); n != 10 || e != api.OK {
		t.Error(n, e)
	}
	if l, e := town.Water(s, 9, true); !slices.Equal(l, ints(5)) || e != api.OK {
		t.Error(l, e)
	}
	expect(t, s, given{week: 10}, api.ErrTime, weekly()...)
	if n, e := town.Perhaps(s); n != 0 || e != api.OK {
		t.Error(n, e)
	}
	expect(t, s, given{}, api.ErrNone, "Surely")
	for _, l := range [][]api.Street{nil, {}, streets(street(1, 0, 0, 0)), streets(street(1, 0, 0, 0, 1), street(2, 0, 0, 0))} {
		s.Streets = l
		expect(t, s, given{}, api.ErrNone, "Perhaps", "Surely", "Proof")
		if k, e := town.Enough(s, 9); k != api.KnownYes || e != api.OK {
			t.Error(l, k, e)
		}
	}
}

// P9.2: the first weeks in which there may be, and is, too little.
func TestFirstWeeks(t *testing.T) {
	s := supply([]api.Fount{gives(1, span(9, 20), span(7, 12), span(7, 9), span(0, 5)), gives(2, span(5, 5), span(5, 5), span(4, 5), span(4, 5))}, street(1, 3, 4, 0, 2), street(2, 6, 8, 0, 1))
	for i, x := range []struct {
		need            api.Span
		perhaps, surely int // -1: none
	}{{span(6, 8), 1, 3}, {span(10, 10), 0, 2}, {span(21, 21), 0, 0}, {span(0, 9), 1, -1}, {span(0, 0), -1, -1}, {span(5, 7), 3, -1}, {span(6, 7), 3, 3}, {span(0, 30), 0, -1}, {span(13, 13), 0, 1}} {
		s.Streets[1].Need = x.need
		n, e := town.Perhaps(s)
		checkFirst(t, "Perhaps", n, e, x.perhaps)
		n, e = town.Surely(s)
		checkFirst(t, "Surely", n, e, x.surely)
		if t.Failed() {
			t.Fatal(i)
		}
	}
}

// P9.3: the fewest streets, of several lists the first one, and streets without a fountain.
func TestProof(t *testing.T) {
	for i, x := range []struct {
		s    api.Supply
		want []int // nil: there is enough
	}{
		{supply(stills(7)), nil}, {supply(stills(7), street(1, 7, 7, 0, 1)), nil}, {supply(stills(7), street(1, 8, 8, 0, 1)), ints(1)}, {supply(stills(7), street(1, 0, 0, 0)), nil}, {supply(stills(7), street(1, 1, 1, 0)), ints(1)}, {supply(stills(7), street(1, 9, 9, 0, 1), street(2, 1, 1, 0)), ints(1)}, {supply(stills(7), street(1, 7, 7, 0, 1), street(2, 1, 1, 0), street(3, 9, 9, 0, 1)), ints(2)},
		{supply(stills(7), street(1, 3, 3, 0, 1), street(2, 3, 3, 0, 1), street(3, 3, 3, 0, 1)), ints(1, 2, 3)}, {supply(stills(7), street(1, 3, 3, 0, 1), street(2, 4, 4, 0, 1), street(3, 4, 4, 0, 1)), ints(2, 3)}, {supply(stills(7), street(1, 4, 4, 0, 1), street(2, 3, 3, 0, 1), street(3, 4, 4, 0, 1), street(4, 7, 7, 0, 1)), ints(1, 3)}, {supply(stills(7), street(1, 1, 1, 0, 1), street(2, 1, 1, 0, 1), street(3, 1, 1, 0, 1), street(4, 1, 1, 0, 1), street(5, 4, 4, 0, 1)), ints(1, 2, 3, 4, 5)},
		{supply(stills(4, 4), street(1, 5, 5, 0, 1, 2), street(2, 4, 4, 0, 1)), ints(1, 2)}, {supply(stills(4, 4), street(1, 4, 4, 0, 1, 2), street(2, 4, 4, 0, 1)), nil}, {supply(stills(4, 9), street(1, 3, 3, 0, 1), street(2, 9, 9, 0, 2), street(3, 2, 2, 0, 1)), ints(1, 3)}, {supply(stills(4, 4, 4), street(1, 4, 4, 0, 1, 2), street(2, 5, 5, 0, 2, 3), street(3, 4, 4, 0, 1, 3)), ints(1, 2, 3)},
		{supply(stills(100, 100, 100, 100), street(1, 100, 100, 0, 1, 2, 3, 4), street(2, 100, 100, 0, 1, 2, 3, 4), street(3, 100, 100, 0, 1, 2, 3, 4), street(4, 100, 100, 0, 1, 2, 3, 4)), nil}, {supply(stills(100, 100, 100, 100), street(1, 100, 100, 0, 1, 2, 3, 4), street(2, 100, 100, 0, 1, 2, 3, 4), street(3, 100, 100, 0, 1, 2, 3, 4), street(4, 100, 100, 0, 1, 2, 3, 4), street(5, 1, 1, 0, 2)), ints(1, 2, 3, 4, 5)},
	} {
		e := api.OK
		if x.want == nil {
			e = api.ErrNone
		}
		for _, best := range []bool{false, true} {
			if l, f := town.Proof(x.s, 0, best); !slices.Equal(l, x.want) || f != e {
				t.Error(i, l, f)
			}
		}
	}
}

// P9.4: neither too much water nor too great a need counts, and both ends of both.
func TestMost(t *testing.T) {
	wide := []api.Fount{gives(1, span(3, 8))}
	for i, x := range []struct {
		s     api.Supply
		want  api.Span
		least uint8
	}{
		{supply(stills(7)), span(0, 0), 2}, {supply(wide, street(1, 0, 0, 0, 1)), span(0, 0), 2}, {supply(wide, street(1, 0, 9, 0, 1)), span(0, 8), 2}, {supply(wide, street(1, 5, 6, 5, 1)), span(3, 6), 1}, {supply(wide, street(1, 9, 9, 9, 1)), span(3, 8), 0}, {supply(wide, street(1, 2, 3, 2, 1)), span(2, 3), 2}, {supply(wide, street(1, 2, 3, 2)), span(0, 0), 0}, {supply(wide, street(1, 2, 3, 0)), span(0, 0), 2}, {supply(wide, street(1, 3, 3, 3, 1)), span(3, 3), 2}, {supply(wide, street(1, 8, 8, 8, 1)), span(3, 8), 1},
		{full(), span(108, 109), 2}, {supply(stills(100, 100, 100, 100), street(1, 100, 100, 100, 1, 2, 3, 4), street(2, 100, 100, 100, 1, 2, 3, 4), street(3, 100, 100, 0, 1, 2, 3, 4), street(4, 100, 100, 0, 1, 2, 3, 4), street(5, 100, 100, 0, 1, 2, 3, 4)), span(400, 400), 2}, {supply(stills(4, 4), street(1, 6, 6, 6, 1, 2), street(2, 6, 6, 2, 2)), span(8, 8), 2}, {supply(stills(4, 4), street(1, 6, 6, 6, 1, 2), street(2, 6, 6, 3, 2)), span(8, 8), 0}, {supply(stills(4, 4), street(1, 3, 9, 0, 1), street(2, 2, 9, 0, 1)), span(4, 4), 2},
	} {
		m, e := town.Most(x.s, 0)
		l, f := town.Least(x.s, 0)
		if m != x.want || e != api.OK || l != x.least || f != api.OK {
			t.Error(i, m, e, l, f)
		}
	}
}

// P9.5, P9.12: pints go to the poorest that can get one, of several to the least Id, up to the Hi of what it needs, also at best.
func TestFair(t *testing.T) {
	for i, x := range []struct {
		s    api.Supply
		want []int // nil: some least cannot be
	}{
		{supply(stills(7)), []int{}}, {supply(stills(7), street(1, 0, 9, 0, 1)), ints(7)}, {supply(stills(7), street(1, 0, 5, 0, 1)), ints(5)}, {supply(stills(7), street(1, 0, 5, 0)), ints(0)}, {supply(stills(7), street(1, 8, 8, 8, 1)), nil}, {supply(stills(7), street(1, 1, 1, 1)), nil}, {supply(stills(7), street(1, 7, 9, 7, 1)), ints(7)},
		{supply(stills(7), street(1, 0, 9, 0, 1), street(2, 0, 9, 0, 1)), ints(4, 3)}, {supply(stills(7), street(1, 0, 9, 0, 1), street(2, 0, 9, 0, 1), street(3, 0, 9, 0, 1)), ints(3, 2, 2)}, {supply(stills(8), street(1, 0, 9, 0, 1), street(2, 0, 9, 0, 1), street(3, 0, 9, 0, 1)), ints(3, 3, 2)}, {supply(stills(7), street(1, 6, 9, 6, 1), street(2, 0, 9, 0, 1)), ints(6, 1)}, {supply(stills(7), street(1, 0, 1, 0, 1), street(2, 0, 9, 0, 1)), ints(1, 6)}, {supply(stills(7), street(1, 3, 9, 3, 1), street(2, 0, 9, 0, 1)), ints(4, 3)}, {supply(stills(7), street(1, 4, 9, 4, 1), street(2, 4, 9, 4, 1)), nil},
		// Who can draw from several leaves the one to those who cannot.
		{supply(stills(4, 4), street(1, 0, 9, 0, 1, 2), street(2, 0, 9, 0, 1)), ints(4, 4)}, {supply(stills(2, 6), street(1, 0, 9, 0, 1, 2), street(2, 0, 9, 0, 1)), ints(6, 2)}, {supply(stills(6, 2), street(1, 0, 9, 0, 1, 2), street(2, 0, 9, 0, 1)), ints(4, 4)}, {supply(stills(6, 2, 1), street(1, 0, 9, 0, 1, 2), street(2, 0, 9, 0, 2, 3), street(3, 0, 9, 0, 3)), ints(6, 2, 1)}, {supply(stills(3, 3, 3), street(1, 3, 9, 3, 1), street(2, 0, 9, 0, 1), street(3, 0, 9, 0, 1, 2), street(4, 0, 9, 0, 2, 3), street(5, 0, 9, 0, 3)), ints(3, 0, 2, 2, 2)}, {supply(stills(100, 0), street(1, 100, 100, 1, 1), street(2, 99, 100, 0, 1, 2)), ints(50, 50)}, {full(), ints(0, 5, 1, 3, 100)},
	} {
		e := api.OK
		if x.want == nil {
			e = api.ErrNone
		}
		for _, best := range []bool{false, true} {
			if l, f := town.Fair(x.s, 0, best); !slices.Equal(l, x.want) || f != e {
				t.Error(i, l, f)
			}
		}
	}
	// The water differs, what is given out up to does not.
	s := supply([]api.Fount{gives(1, span(3, 8))}, street(1, 2, 5, 2, 1), street(2, 1, 9, 1, 1))
	for best, want := range map[bool][]int{false: ints(2, 1), true: ints(4, 4)} {
		if l, e := town.Fair(s, 0, best); !slices.Equal(l, want) || e != api.OK {
			t.Error(best, l, e)
		}
	}
}

// P9.6, P9.13: fountains in order, as many pints as leave the rest to be drawn.
func TestPulls(t *testing.T) {
	for i, x := range []struct {
		s      api.Supply
		shares []int
		want   []api.Pull
		e      api.Errno
	}{
		{supply(stills(7)), nil, nil, api.OK}, {supply(stills(7), street(1, 0, 0, 0)), ints(0), nil, api.OK}, {supply(stills(7), street(1, 0, 0, 0)), ints(1), nil, api.ErrNone}, {supply(stills(7), street(1, 9, 9, 9, 1)), ints(0), nil, api.OK},
		// More than is needed, less than the least.
		{supply(stills(7), street(1, 2, 3, 2, 1)), ints(7), pulls(pull(1, 1, 7)), api.OK}, {supply(stills(7), street(1, 2, 3, 2, 1)), ints(8), nil, api.ErrNone}, {supply(stills(7), street(1, 2, 3, 2, 1)), ints(1), pulls(pull(1, 1, 1)), api.OK}, {supply(stills(100), street(1, 0, 0, 0, 1)), ints(100), pulls(pull(1, 1, 100)), api.OK},
		{supply(stills(4, 4), street(1, 0, 0, 0, 1, 2), street(2, 0, 0, 0, 1)), ints(4, 4), pulls(pull(1, 2, 4), pull(2, 1, 4)), api.OK}, {supply(stills(4, 4), street(1, 0, 0, 0, 1, 2), street(2, 0, 0, 0, 1)), ints(5, 3), pulls(pull(1, 1, 1), pull(1, 2, 4), pull(2, 1, 3)), api.OK}, {supply(stills(4, 4), street(1, 0, 0, 0, 1, 2), street(2, 0, 0, 0, 1)), ints(5, 4), nil, api.ErrNone}, {supply(stills(4, 4), street(1, 0, 0, 0, 1, 2), street(2, 0, 0, 0, 1, 2)), ints(5, 3), pulls(pull(1, 1, 4), pull(1, 2, 1), pull(2, 2, 3)), api.OK}, {supply(stills(4, 4), street(1, 0, 0, 0, 1, 2), street(2, 0, 0, 0, 1, 2)), ints(3, 5), pulls(pull(1, 1, 3), pull(2, 1, 1), pull(2, 2, 4)), api.OK},
		{supply(stills(2, 2, 2), street(1, 0, 0, 0, 1, 2, 3), street(2, 0, 0, 0, 2), street(3, 0, 0, 0, 1)), ints(3, 2, 1), pulls(pull(1, 1, 1), pull(1, 3, 2), pull(2, 2, 2), pull(3, 1, 1)), api.OK}, {supply(stills(2, 2, 2), street(1, 0, 0, 0, 1, 2, 3), street(2, 0, 0, 0, 1, 2), street(3, 0, 0, 0, 1, 3)), ints(2, 2, 2), pulls(pull(1, 1, 2), pull(2, 2, 2), pull(3, 3, 2)), api.OK},
		{supply([]api.Fount{still(5, 3), still(70, 3)}, street(9, 0, 0, 0, 70), street(80, 0, 0, 0, 5, 70)), ints(2, 4), pulls(pull(9, 70, 2), pull(80, 5, 3), pull(80, 70, 1)), api.OK},
	} {
		for _, best := range []bool{false, true} {
			if l, e := town.Pulls(x.s, 0, best, x.shares); !slices.Equal(l, x.want) || e != x.e {
				t.Error(i, l, e)
			}
		}
	}
	s := supply([]api.Fount{gives(1, span(3, 8))}, street(1, 2, 5, 2, 1))
	expect(t, s, given{shares: ints(4)}, api.ErrNone, "Pulls")
	expect(t, s, given{shares: ints(9), best: true}, api.ErrNone, "Pulls")
	if l, e := town.Pulls(s, 0, true, ints(8)); !slices.Equal(l, pulls(pull(1, 1, 8))) || e != api.OK {
		t.Error(l, e)
	}
}

// P9.7, P9.14: a pint more that helps, and as many as are enough, at worst, however many.
func TestHelps(t *testing.T) {
	five := streets(street(1, 0, 100, 0, 1), street(2, 0, 100, 0, 1), street(3, 0, 100, 0, 1), street(4, 0, 100, 0, 1), street(5, 0, 100, 0, 1))
	for i, x := range []struct {
		s    api.Supply
		want []int
		more []int // for each fountain; -1: no number is enough
	}{
		{supply(stills(7)), nil, ints(0)}, {supply(stills(7), street(1, 7, 7, 0, 1)), nil, ints(0)}, {supply(stills(7), street(1, 7, 8, 0, 1)), ints(1), ints(1)}, {supply(stills(7), street(1, 7, 8, 0)), nil, ints(-1)}, {supply(stills(0), five...), ints(1), ints(500)}, {supply(stills(100), five...), ints(1), ints(400)},
		{supply([]api.Fount{gives(1, span(2, 9)), still(4, 3)}, street(1, 1, 9, 0, 1, 4)), ints(1, 4), ints(4, 4)}, {supply(stills(7, 7), street(1, 8, 8, 0, 1)), ints(1), ints(1, -1)}, {supply(stills(7, 7), street(1, 8, 8, 0, 1), street(2, 9, 9, 0, 2)), ints(1, 2), ints(-1, -1)}, {supply(stills(7, 7), street(1, 8, 8, 0, 1), street(2, 9, 9, 0, 1, 2)), ints(1, 2), ints(3, -1)}, {supply(stills(7, 0, 7), street(1, 9, 9, 0, 1, 2), street(2, 9, 9, 0, 2, 3)), ints(1, 2, 3), ints(-1, 4, -1)}, {supply(stills(5, 5), street(1, 9, 9, 0, 1, 2), street(2, 1, 1, 0, 1)), nil, ints(0, 0)},
		{supply(stills(2, 9), street(1, 3, 3, 0, 1), street(2, 9, 9, 0, 1, 2)), ints(1), ints(1, -1)},
	} {
		if l, e := town.Helps(x.s, 0); !slices.Equal(l, x.want) || e != api.OK {
			t.Error(i, l, e)
		}
		for k, want := range x.more {
			n, e := town.More(x.s, 0, x.s.Founts[k].Id)
			checkFirst(t, "More", n, e, want)
		}
		if t.Failed() {
			t.Fatal(i)
		}
	}
}
