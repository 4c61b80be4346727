package climb_test

import (
	"slices"
	"testing"

	"aguador/api"
	"aguador/climb"
)

// P3.1: what is valid, up to each limit and beyond it.
func TestCheck(t *testing.T) {
	places := func(l ...int) func(y *api.Town) { return func(y *api.Town) { y.Places, y.Links = l, nil } }
	last := func(x api.Link) func(y *api.Town) { return func(y *api.Town) { y.Links[3] = x } }
	bad := api.ErrTown
	for i, x := range []struct {
		change func(y *api.Town)
		e      api.Errno
	}{
		{func(*api.Town) {}, api.OK}, {func(y *api.Town) { *y = great() }, api.OK}, {func(y *api.Town) { *y = row(9) }, api.OK}, {func(y *api.Town) { *y = row(10) }, bad}, {func(y *api.Town) { *y = api.Town{} }, bad},
		{places(1), api.OK}, {places(9999), api.OK}, {places(), bad}, {places(0), bad}, {places(-1), bad}, {places(10000), bad}, {places(low), bad}, {places(huge), bad}, {places(1, huge), bad},
		{places(1, 1), bad}, {places(2, 1), bad}, {places(1, 3, 2), bad}, {places(1, 2, 3, 4, 5, 6, 7, 8, 9999), api.OK}, {places(1, 2, 3, 4, 5, 6, 7, 8, 9, 10), bad},
		{func(y *api.Town) { y.Links = nil }, api.OK}, {func(y *api.Town) { y.Places = y.Places[:3] }, bad}, {func(y *api.Town) { y.Places = nil }, bad},
		{func(y *api.Town) { *y = wide(20) }, api.OK}, {func(y *api.Town) { *y = wide(21) }, bad},
		{last(link(9999, 2, 4, 0, 30)), api.OK}, {last(link(10000, 2, 4, 0, 30)), bad}, {last(link(huge, 2, 4, 0, 30)), bad}, {last(link(3, 2, 4, 0, 30)), bad}, {last(link(2, 2, 4, 0, 30)), bad}, {last(link(0, 2, 4, 0, 30)), bad}, {last(link(low, 2, 4, 0, 30)), bad},
		{func(y *api.Town) { y.Links[0].Id = 0 }, bad}, {func(y *api.Town) { y.Links[0].Id = -1 }, bad}, {func(y *api.Town) { y.Links[0].Id = low }, bad},
		{last(link(4, 4, 2, 0, 30)), api.OK}, {last(link(4, 1, 2, 0, 30)), api.OK}, {last(link(4, 4, 4, 0, 30)), bad}, {last(link(4, 5, 4, 0, 30)), bad}, {last(link(4, 2, 5, 0, 30)), bad}, {last(link(4, 0, 4, 0, 30)), bad}, {last(link(4, 2, 0, 0, 30)), bad}, {last(link(4, low, 4, 0, 30)), bad}, {last(link(4, 2, huge, 0, 30)), bad},
		{last(link(4, 2, 4, 500, 30)), api.OK}, {last(link(4, 2, 4, 501, 30)), bad}, {last(link(4, 2, 4, -1, 30)), bad}, {last(link(4, 2, 4, huge, 30)), bad}, {last(link(4, 2, 4, low, 30)), bad},
		{last(link(4, 2, 4, 0, 1)), api.OK}, {last(link(4, 2, 4, 0, 2000)), api.OK}, {last(link(4, 2, 4, 0, 0)), bad}, {last(link(4, 2, 4, 0, -1)), bad}, {last(link(4, 2, 4, 0, 2001)), bad}, {last(link(4, 2, 4, 0, huge)), bad}, {last(link(4, 2, 4, 0, low)), bad},
	} {
		y := chapter()
		x.change(&y)
		if e := climb.Check(y); e != x.e {
			t.Error(i, e)
		}
		if x.e == api.OK {
			continue
		}
		for _, c := range calls(given{walk: ints(0), stops: ints(0), links: ints(0), skin: skin(-1), gait: api.Gait{Pace: span(1, 0)}}) {
			if z := c.run(y); z.e != bad || !z.isZero() {
				t.Error(i, c.name, z)
			}
		}
	}
}

// expect checks the error of some calls, and that nothing is told beside it.
func expect(t *testing.T, y api.Town, g given, e api.Errno, names ...string) {
	t.Helper()
	many := 0
	for _, c := range calls(g) {
		if !slices.Contains(names, c.name) {
			continue
		}
		many++
		if z := c.run(y); z.e != e || e != api.OK && !z.isZero() {
			t.Error(c.name, g, z)
		}
	}
	if many != len(names) {
		t.Error("no such calls:", names)
	}
}

// P3.1, R1, R2: of several errors the one that is named first, and nothing beside it.
func TestErrors(t *testing.T) {
	wild := given{from: 1, to: 4, donkey: true, walk: ints(3), stops: ints(1, 1), skin: skin(-1), gait: api.Gait{Pace: span(1, 0)}}
	for _, place := range ints(0, 5, -1, low, huge) {
		g := wild
		g.from = place
		expect(t, chapter(), g, api.ErrPlace, "Way", "Toil", "Reach", "Walk", "Need", "Gate", "Worst", "Round", "Order", "End", "Wet", "Seconds", "Minutes", "Quick")
		g = wild
		g.to = place
		expect(t, chapter(), g, api.ErrPlace, "Way", "Toil", "Need", "Gate", "Worst", "Wet", "Minutes", "Quick")
	}
	expect(t, chapter(), wild, api.ErrSkin, "End", "Wet")
	expect(t, chapter(), wild, api.ErrGait, "Seconds", "Minutes", "Quick")
	expect(t, chapter(), wild, api.ErrWalk, "Walk")
	expect(t, chapter(), wild, api.ErrStops, "Round", "Order")
	tame := given{from: 1, to: 4, donkey: true, walk: ints(3), stops: ints(2)}
	expect(t, chapter(), tame, api.ErrWalk, "Walk", "End", "Seconds")
	expect(t, chapter(), tame, api.ErrNone, "Way", "Toil", "Need", "Gate", "Worst", "Round", "Order", "Wet", "Minutes", "Quick")
	expect(t, apart(), given{from: 1, to: 3, stops: ints(2, 4)}, api.ErrNone, "Way", "Toil", "Need", "Gate", "Worst", "Round", "Order", "Wet", "Minutes", "Quick")
	expect(t, chapter(), given{from: 1, to: 4, links: ints(0)}, api.ErrLinks, "Close", "Open")
	// From a place to itself there is a walk, whatever cannot be gone.
	expect(t, chapter(), given{from: 4, to: 4, donkey: true}, api.OK, "Way", "Toil", "Need", "Gate", "Worst", "Round", "Order", "Wet", "Minutes", "Quick", "Reach", "Walk", "End", "Seconds", "Close")
}

// P3.1: which skins and gaits are valid, up to each limit and beyond it.
func TestSkinsAndGaits(t *testing.T) {
	for i, x := range []struct {
		s api.Skin
		e api.Errno
	}{
		{api.Skin{}, api.OK}, {skin(100000), api.OK}, {skin(100001), api.ErrSkin}, {skin(-1), api.ErrSkin}, {skin(huge), api.ErrSkin}, {skin(low), api.ErrSkin},
		{api.Skin{Pace: span(0, 50), Step: span(50, 50)}, api.OK}, {api.Skin{Pace: span(50, 50), Step: span(0, 50)}, api.OK},
		{api.Skin{Pace: span(0, 51)}, api.ErrSkin}, {api.Skin{Pace: span(-1, 0)}, api.ErrSkin}, {api.Skin{Pace: span(2, 1)}, api.ErrSkin}, {api.Skin{Pace: span(51, 51)}, api.ErrSkin}, {api.Skin{Pace: span(low, huge)}, api.ErrSkin}, {api.Skin{Pace: span(huge, huge)}, api.ErrSkin}, {api.Skin{Pace: span(low, low)}, api.ErrSkin},
		{api.Skin{Step: span(0, 51)}, api.ErrSkin}, {api.Skin{Step: span(-1, 0)}, api.ErrSkin}, {api.Skin{Step: span(2, 1)}, api.ErrSkin}, {api.Skin{Step: span(51, 51)}, api.ErrSkin}, {api.Skin{Step: span(low, huge)}, api.ErrSkin}, {api.Skin{Step: span(huge, huge)}, api.ErrSkin}, {api.Skin{Step: span(low, low)}, api.ErrSkin},
	} {
		_, e := climb.End(chapter(), x.s, 1, ints(1))
		_, _, f := climb.Wet(chapter(), x.s, 1, 4, false)
		if e != x.e || f != x.e {
			t.Error(i, e, f)
		}
	}
	for i, x := range []struct {
		g api.Gait
		e api.Errno
	}{
		{api.Gait{}, api.OK}, {api.Gait{Pace: span(0, 20), Step: span(20, 20)}, api.OK}, {api.Gait{Pace: span(20, 20), Step: span(0, 20)}, api.OK},
		{api.Gait{Pace: span(0, 21)}, api.ErrGait}, {api.Gait{Pace: span(-1, 0)}, api.ErrGait}, {api.Gait{Pace: span(2, 1)}, api.ErrGait}, {api.Gait{Pace: span(21, 21)}, api.ErrGait}, {api.Gait{Pace: span(low, huge)}, api.ErrGait}, {api.Gait{Pace: span(huge, huge)}, api.ErrGait}, {api.Gait{Pace: span(low, low)}, api.ErrGait},
		{api.Gait{Step: span(0, 21)}, api.ErrGait}, {api.Gait{Step: span(-1, 0)}, api.ErrGait}, {api.Gait{Step: span(2, 1)}, api.ErrGait}, {api.Gait{Step: span(21, 21)}, api.ErrGait}, {api.Gait{Step: span(low, huge)}, api.ErrGait}, {api.Gait{Step: span(huge, huge)}, api.ErrGait}, {api.Gait{Step: span(low, low)}, api.ErrGait},
	} {
		_, e := climb.Seconds(chapter(), x.g, 1, ints(1))
		_, f := climb.Minutes(chapter(), x.g, 1, 4, false)
		_, _, h := climb.Quick(chapter(), x.g, 1, 4, false)
		if e != x.e || f != x.e || h != x.e {
			t.Error(i, e, f, h)
		}
	}
}

// P3.1: which stops are valid.
func TestStops(t *testing.T) {
	for i, x := range []struct {
		y     api.Town
		base  int
		stops []int
		e     api.Errno
	}{
		{row(9), 5, ints(1, 2, 3, 4, 6, 7), api.OK}, {row(9), 5, ints(9, 1, 8, 2, 7, 3), api.OK}, {row(9), 5, ints(1, 2, 3, 4, 6, 7, 8), api.ErrStops}, {row(9), 5, nil, api.OK}, {row(1), 1, ints(), api.OK},
		{row(9), 5, ints(5), api.ErrStops}, {row(9), 5, ints(1, 5), api.ErrStops}, {row(9), 5, ints(1, 1), api.ErrStops}, {row(9), 5, ints(3, 1, 3), api.ErrStops}, {row(9), 5, ints(10), api.ErrStops}, {row(9), 5, ints(1, 0), api.ErrStops}, {row(9), 5, ints(-1), api.ErrStops}, {row(9), 5, ints(low), api.ErrStops}, {row(9), 5, ints(1, huge), api.ErrStops},
	} {
		expect(t, x.y, given{from: x.base, stops: x.stops}, x.e, "Round", "Order")
		expect(t, x.y, given{from: x.base, to: x.base}, api.OK, "Way")
		if t.Failed() {
			t.Fatal(i)
		}
	}
}

// P3.2, P3.9: the chapter's examples, and walks of one toil.
func TestWay(t *testing.T) {
	for i, x := range []struct {
		y        api.Town
		from, to int
		donkey   bool
		l        []int
		toil     api.Toil
		e        api.Errno
	}{
		{chapter(), 1, 4, false, ints(2, 3, 4), toil(20, 140), api.OK}, {chapter(), 4, 1, false, ints(4, 1), toil(0, 70), api.OK}, {chapter(), 1, 4, true, nil, toil(0, 0), api.ErrNone},
		{chapter(), 1, 3, true, ints(2), toil(0, 100), api.OK}, {chapter(), 1, 3, false, ints(2), toil(0, 100), api.OK}, {chapter(), 3, 2, false, ints(3), toil(20, 10), api.OK}, {chapter(), 2, 3, false, ints(3), toil(0, 10), api.OK}, {chapter(), 2, 3, true, nil, toil(0, 0), api.ErrNone},
		{chapter(), 2, 2, false, nil, toil(0, 0), api.OK}, {chapter(), 2, 2, true, nil, toil(0, 0), api.OK}, {row(1), 1, 1, true, nil, toil(0, 0), api.OK},
		// With as many steps and paces fewer links, with as many the least Ids.
		{ring(), 1, 2, false, ints(4), toil(0, 3), api.OK}, {ring(), 1, 5, false, ints(3, 6), toil(0, 6), api.OK}, {ring(), 5, 1, true, ints(5, 4), toil(0, 6), api.OK},
		{wide(20), 1, 2, true, ints(2), toil(0, 1), api.OK}, {row(9), 1, 9, false, ints(1, 2, 3, 4, 5, 6, 7, 8), toil(8, 16), api.OK}, {row(9), 9, 1, false, ints(8, 7, 6, 5, 4, 3, 2, 1), toil(0, 16), api.OK},
		{great(), 9991, 9999, false, ints(9988), toil(0, 2000), api.OK}, {great(), 9991, 9992, false, ints(9988, 9995, 9993, 9999), toil(0, 8000), api.OK}, {apart(), 2, 4, false, nil, toil(0, 0), api.ErrNone},
	} {
		l, e := climb.Way(x.y, x.from, x.to, x.donkey)
		c, f := climb.Toil(x.y, x.from, x.to, x.donkey)
		if !slices.Equal(l, x.l) || e != x.e || c != x.toil || f != x.e {
			t.Error(i, l, e, c, f)
		}
	}
}

// P3.2: the chapter's example, stairs that no donkey goes, and places that nothing leads to.
func TestReach(t *testing.T) {
	for i, x := range []struct {
		y      api.Town
		from   int
		donkey bool
		want   []int
	}{
		{chapter(), 1, true, ints(1, 3)}, {chapter(), 4, true, ints(2, 4)}, {chapter(), 4, false, ints(1, 2, 3, 4)}, {ring(), 5, true, ints(1, 2, 3, 4, 5)},
		{row(1), 1, false, ints(1)}, {row(9), 7, true, ints(7)}, {row(9), 7, false, ints(1, 2, 3, 4, 5, 6, 7, 8, 9)}, {apart(), 2, false, ints(1, 2)}, {apart(), 3, false, ints(3, 4)}, {apart(), 3, true, ints(3)},
	} {
		if l, e := climb.Reach(x.y, x.from, x.donkey); !slices.Equal(l, x.want) || e != api.OK {
			t.Error(i, l, e)
		}
	}
}

// P3.1, P3.2: the chapter's example, walks that go back, and lists that are no walk.
func TestWalk(t *testing.T) {
	for i, x := range []struct {
		y    api.Town
		from int
		l    []int
		to   int
		toil api.Toil
		e    api.Errno
	}{
		{chapter(), 1, ints(1, 3), 3, toil(50, 50), api.OK}, {chapter(), 1, ints(2, 3, 4), 4, toil(20, 140), api.OK}, {chapter(), 4, ints(4, 3, 2), 1, toil(0, 140), api.OK}, {chapter(), 1, ints(1, 1, 1), 2, toil(100, 120), api.OK}, {chapter(), 3, ints(3, 1, 2), 3, toil(20, 150), api.OK},
		{chapter(), 1, nil, 1, toil(0, 0), api.OK}, {chapter(), 4, ints(), 4, toil(0, 0), api.OK}, {great(), 9991, slices.Repeat(ints(9980), 40), 9991, toil(10000, 80000), api.OK}, {great(), 9991, slices.Repeat(ints(9980), 39), 9992, toil(10000, 78000), api.OK},
		{great(), 9991, slices.Repeat(ints(9980), 41), 0, toil(0, 0), api.ErrWalk}, {chapter(), 1, ints(3), 0, toil(0, 0), api.ErrWalk}, {chapter(), 1, ints(1, 2), 0, toil(0, 0), api.ErrWalk}, {chapter(), 1, ints(1, 4, 3), 0, toil(0, 0), api.ErrWalk},
		{chapter(), 1, ints(5), 0, toil(0, 0), api.ErrWalk}, {chapter(), 1, ints(0), 0, toil(0, 0), api.ErrWalk}, {chapter(), 1, ints(1, -1), 0, toil(0, 0), api.ErrWalk}, {chapter(), 1, ints(low), 0, toil(0, 0), api.ErrWalk}, {chapter(), 1, ints(1, huge), 0, toil(0, 0), api.ErrWalk},
	} {
		to, c, e := climb.Walk(x.y, x.from, x.l)
		if to != x.to || c != x.toil || e != x.e {
			t.Error(i, to, c, e)
		}
		expect(t, x.y, given{from: x.from, walk: x.l}, x.e, "End", "Seconds")
	}
}

// P3.3, P3.4, P3.11, P3.16: the chapter's examples, a row in which all is needed, and a ring in which nothing is.
func TestNeedGateWorst(t *testing.T) {
	for i, x := range []struct {
		y          api.Town
		from, to   int
		donkey     bool
		need, gate []int
		e          api.Errno
		link       int
		worst      api.Toil
		f          api.Errno
	}{
		{chapter(), 1, 4, false, ints(4), ints(2), api.OK, 2, toil(50, 70), api.OK}, {chapter(), 4, 1, false, ints(4), ints(2), api.OK, 1, toil(0, 140), api.OK}, {chapter(), 3, 4, false, ints(4), ints(2), api.OK, 3, toil(50, 170), api.OK},
		{chapter(), 1, 4, true, nil, nil, api.ErrNone, 0, toil(0, 0), api.ErrNone}, {chapter(), 1, 3, true, ints(2), nil, api.OK, 1, toil(0, 100), api.OK}, {chapter(), 1, 2, false, nil, nil, api.OK, 2, toil(50, 40), api.OK},
		{chapter(), 3, 3, false, nil, nil, api.OK, 1, toil(0, 0), api.OK}, {chapter(), 4, 4, true, nil, nil, api.OK, 1, toil(0, 0), api.OK}, {row(1), 1, 1, false, nil, nil, api.OK, 0, toil(0, 0), api.ErrNone},
		{row(5), 1, 5, false, ints(1, 2, 3, 4), ints(2, 3, 4), api.OK, 0, toil(0, 0), api.ErrNone}, {row(5), 4, 2, false, ints(2, 3), ints(3), api.OK, 1, toil(0, 4), api.OK}, {row(2), 1, 2, false, ints(1), nil, api.OK, 0, toil(0, 0), api.ErrNone},
		{ring(), 1, 5, false, nil, nil, api.OK, 1, toil(0, 6), api.OK}, {ring(), 4, 5, true, nil, nil, api.OK, 2, toil(0, 7), api.OK}, {wide(20), 1, 2, false, nil, nil, api.OK, 2, toil(0, 2), api.OK}, {wide(1), 1, 2, false, ints(2), nil, api.OK, 0, toil(0, 0), api.ErrNone},
		{apart(), 1, 4, false, nil, nil, api.ErrNone, 0, toil(0, 0), api.ErrNone}, {apart(), 1, 2, false, ints(1), nil, api.OK, 2, toil(0, 1), api.OK},
	} {
		l, e := climb.Need(x.y, x.from, x.to, x.donkey)
		k, g := climb.Gate(x.y, x.from, x.to, x.donkey)
		id, c, f := climb.Worst(x.y, x.from, x.to, x.donkey)
		if !slices.Equal(l, x.need) || e != x.e || !slices.Equal(k, x.gate) || g != x.e {
			t.Error(i, l, e, k, g)
		}
		if id != x.link || c != x.worst || f != x.f {
			t.Error(i, id, c, f)
		}
	}
}

// P3.5, P3.13: the chapter's examples, orders of one toil, and stops that cannot be gone to.
func TestRoundAndOrder(t *testing.T) {
	for i, x := range []struct {
		y         api.Town
		base      int
		stops     []int
		donkey    bool
		order     []int
		best, own api.Toil
		e         api.Errno
	}{
		{chapter(), 1, ints(2, 3), false, ints(3, 2), toil(20, 150), toil(20, 220), api.OK}, {chapter(), 1, ints(3, 2), false, ints(3, 2), toil(20, 150), toil(20, 150), api.OK}, {chapter(), 1, ints(4), false, ints(4), toil(20, 210), toil(20, 210), api.OK}, {chapter(), 1, ints(3), true, ints(3), toil(0, 200), toil(0, 200), api.OK},
		{chapter(), 1, nil, true, nil, toil(0, 0), toil(0, 0), api.OK}, {chapter(), 1, ints(), false, nil, toil(0, 0), toil(0, 0), api.OK}, {ring(), 1, ints(5, 2), true, ints(2, 5), toil(0, 12), toil(0, 12), api.OK}, {ring(), 1, ints(5, 3, 2), false, ints(2, 5, 3), toil(0, 12), toil(0, 18), api.OK},
		{row(9), 5, ints(9, 1), false, ints(1, 9), toil(8, 32), toil(8, 32), api.OK}, {row(9), 1, ints(7, 2, 6, 3, 5, 4), false, ints(2, 3, 4, 5, 6, 7), toil(6, 24), toil(12, 48), api.OK},
		{chapter(), 1, ints(2), true, nil, toil(0, 0), toil(0, 0), api.ErrNone}, {chapter(), 1, ints(3, 2), true, nil, toil(0, 0), toil(0, 0), api.ErrNone}, {apart(), 1, ints(2, 3), false, nil, toil(0, 0), toil(0, 0), api.ErrNone}, {row(3), 2, ints(1), true, nil, toil(0, 0), toil(0, 0), api.ErrNone},
	} {
		l, c, e := climb.Round(x.y, x.base, x.stops, x.donkey)
		own, f := climb.Order(x.y, x.base, x.stops, x.donkey)
		if !slices.Equal(l, x.order) || c != x.best || e != x.e || own != x.own || f != x.e {
			t.Error(i, l, c, e, own, f)
		}
	}
}

// P3.6, P3.14: the chapter's examples, skins that run dry, and the greatest losses.
func TestEnd(t *testing.T) {
	all := slices.Repeat(ints(9980), 40)
	for i, x := range []struct {
		y    api.Town
		s    api.Skin
		from int
		l    []int
		want api.Span
	}{
		{chapter(), skin(1000), 1, ints(2, 3, 4), span(660, 860)}, {chapter(), skin(1000), 1, ints(1, 4), span(710, 930)}, {chapter(), skin(1000), 4, ints(4, 1), span(710, 930)}, {chapter(), skin(1000), 2, ints(3), span(920, 990)}, {chapter(), skin(1000), 1, nil, span(1000, 1000)},
		{chapter(), skin(340), 1, ints(2, 3, 4), span(0, 200)}, {chapter(), skin(339), 1, ints(2, 3, 4), span(0, 199)}, {chapter(), skin(140), 1, ints(2, 3, 4), span(0, 0)}, {chapter(), skin(139), 1, ints(2, 3, 4), span(0, 0)}, {chapter(), skin(0), 1, ints(2), span(0, 0)}, {chapter(), skin(100000), 1, ints(2), span(99800, 99900)},
		{great(), api.Skin{Drops: 100000, Pace: span(50, 50), Step: span(50, 50)}, 9991, all, span(0, 0)}, {great(), api.Skin{Drops: 100000, Pace: span(0, 1), Step: span(1, 1)}, 9991, all, span(0, 80000)}, {great(), api.Skin{Drops: 100000, Step: span(1, 4)}, 9991, all, span(20000, 80000)},
	} {
		if y, e := climb.End(x.y, x.s, x.from, x.l); y != x.want || e != api.OK {
			t.Error(i, y, e)
		}
	}
}

// P3.6, P3.14: the chapter's example, skins that run dry, lose nothing, or as much on several walks.
func TestWet(t *testing.T) {
	for i, x := range []struct {
		y        api.Town
		s        api.Skin
		from, to int
		donkey   bool
		l        []int
		drops    int
		e        api.Errno
	}{
		{chapter(), skin(1000), 1, 4, false, ints(1, 4), 710, api.OK}, {chapter(), skin(1000), 4, 1, false, ints(4, 1), 710, api.OK}, {chapter(), skin(290), 1, 4, false, ints(1, 4), 0, api.OK}, {chapter(), skin(289), 1, 4, false, ints(1, 4), 0, api.OK}, {chapter(), skin(0), 1, 4, false, ints(1, 4), 0, api.OK}, {chapter(), skin(291), 1, 4, false, ints(1, 4), 1, api.OK},
		{chapter(), skin(1000), 1, 3, false, ints(2), 800, api.OK}, {chapter(), skin(1000), 1, 3, true, ints(2), 800, api.OK}, {chapter(), skin(1000), 1, 4, true, nil, 0, api.ErrNone}, {chapter(), skin(7), 2, 2, true, nil, 7, api.OK},
		{chapter(), api.Skin{Drops: 50}, 1, 4, false, ints(2, 3, 4), 50, api.OK}, {chapter(), api.Skin{Drops: 100, Pace: span(0, 1), Step: span(0, 2)}, 1, 2, false, ints(1), 0, api.OK},
		// The greatest loss decides, not the least one; of equal losses the walk that climbs less.
		{chapter(), api.Skin{Drops: 1000, Pace: span(0, 3), Step: span(2, 2)}, 1, 2, false, ints(1), 780, api.OK}, {chapter(), api.Skin{Drops: 1000, Pace: span(0, 3), Step: span(9, 9)}, 1, 2, false, ints(2, 3), 490, api.OK}, {chapter(), api.Skin{Drops: 9000, Pace: span(0, 3), Step: span(0, 7)}, 1, 2, false, ints(2, 3), 8530, api.OK},
	} {
		l, n, e := climb.Wet(x.y, x.s, x.from, x.to, x.donkey)
		if !slices.Equal(l, x.l) || n != x.drops || e != x.e {
			t.Error(i, l, n, e)
		}
	}
}

// P3.7: the chapter's examples, both ends of minutes, and the longest times.
func TestTimes(t *testing.T) {
	fixed := func(pace, step int) api.Gait { return api.Gait{Pace: span(pace, pace), Step: span(step, step)} }
	for i, x := range []struct {
		y    api.Town
		g    api.Gait
		from int
		l    []int
		want api.Span
	}{
		{chapter(), gait(), 1, ints(2, 3, 4), span(180, 340)}, {chapter(), gait(), 1, ints(1, 4), span(170, 290)}, {chapter(), gait(), 4, ints(4, 1), span(70, 140)}, {chapter(), gait(), 3, nil, span(0, 0)},
		{chapter(), api.Gait{}, 1, ints(1), span(0, 0)}, {chapter(), fixed(0, 7), 1, ints(1, 1, 1), span(700, 700)}, {great(), fixed(20, 20), 9991, slices.Repeat(ints(9980), 40), span(1800000, 1800000)},
	} {
		if y, e := climb.Seconds(x.y, x.g, x.from, x.l); y != x.want || e != api.OK {
			t.Error(i, y, e)
		}
	}
	for i, x := range []struct {
		y        api.Town
		g        api.Gait
		from, to int
		donkey   bool
		minutes  api.Span
		l        []int
		seconds  api.Span
		e        api.Errno
	}{
		{chapter(), gait(), 1, 4, false, span(3, 6), ints(1, 4), span(170, 290), api.OK}, {chapter(), gait(), 4, 1, false, span(1, 3), ints(4, 1), span(70, 140), api.OK}, {chapter(), gait(), 1, 3, true, span(1, 4), ints(2), span(100, 200), api.OK}, {chapter(), gait(), 1, 4, true, span(0, 0), nil, span(0, 0), api.ErrNone}, {chapter(), gait(), 2, 2, true, span(0, 0), nil, span(0, 0), api.OK},
		{wide(1), fixed(20, 0), 1, 2, true, span(0, 1), ints(2), span(20, 20), api.OK}, {chapter(), fixed(1, 2), 1, 4, false, span(3, 3), ints(1, 4), span(170, 170), api.OK}, {chapter(), fixed(1, 5), 1, 4, false, span(4, 4), ints(2, 3, 4), span(240, 240), api.OK}, {chapter(), fixed(0, 0), 1, 4, false, span(0, 0), ints(2, 3, 4), span(0, 0), api.OK},
		// The greatest time decides, not the least one; of equal times the walk that climbs less.
		{chapter(), api.Gait{Pace: span(1, 1), Step: span(0, 19)}, 1, 4, false, span(2, 9), ints(2, 3, 4), span(140, 520), api.OK}, {chapter(), fixed(3, 7), 1, 4, false, span(9, 10), ints(2, 3, 4), span(560, 560), api.OK}, {great(), fixed(20, 20), 9991, 9999, false, span(666, 667), ints(9988), span(40000, 40000), api.OK},
	} {
		m, e := climb.Minutes(x.y, x.g, x.from, x.to, x.donkey)
		l, s, f := climb.Quick(x.y, x.g, x.from, x.to, x.donkey)
		if m != x.minutes || e != x.e || !slices.Equal(l, x.l) || s != x.seconds || f != x.e {
			t.Error(i, m, e, l, s, f)
		}
	}
}
