package climb_test

import (
	"slices"
	"testing"

	"aguador/api"
	"aguador/climb"
)

// P3.8: only Ids of links, in increasing order, no one twice.
func TestClose(t *testing.T) {
	all := wide(4).Links
	for i, x := range []struct {
		l    []int
		want []api.Link
		e    api.Errno
	}{
		{nil, all, api.OK}, {ints(), all, api.OK}, {ints(2), all[1:], api.OK}, {ints(8), all[:3], api.OK}, {ints(4, 6), []api.Link{all[0], all[3]}, api.OK}, {ints(2, 4, 6, 8), nil, api.OK},
		{ints(4, 2), nil, api.ErrLinks}, {ints(2, 2), nil, api.ErrLinks}, {ints(3), nil, api.ErrLinks}, {ints(0), nil, api.ErrLinks}, {ints(-2), nil, api.ErrLinks}, {ints(2, 10), nil, api.ErrLinks}, {ints(2, 4, 6, 8, 10), nil, api.ErrLinks}, {ints(low), nil, api.ErrLinks}, {ints(2, huge), nil, api.ErrLinks},
	} {
		want := api.Town{}
		if x.e == api.OK {
			want = api.Town{Places: ints(1, 2), Links: x.want}
		}
		if y, e := climb.Close(wide(4), x.l); !same(y, want) || e != x.e {
			t.Error(i, y, e)
		}
	}
	if y, e := climb.Close(row(1), nil); !same(y, row(1)) || e != api.OK {
		t.Error(y, e)
	}
}

// P3.8: a link is put in its place.
func TestOpen(t *testing.T) {
	for i, x := range []struct {
		y  api.Town
		x  api.Link
		at int
		e  api.Errno
	}{
		{chapter(), link(5, 4, 1, 500, 2000), 4, api.OK}, {chapter(), link(9999, 1, 4, 0, 1), 4, api.OK}, {wide(4), link(1, 1, 2, 0, 1), 0, api.OK}, {wide(4), link(5, 2, 1, 3, 1), 2, api.OK}, {wide(19), link(7, 2, 1, 3, 1), 3, api.OK}, {wide(0), link(7, 2, 1, 3, 1), 0, api.OK}, {great(), link(1, 9991, 9992, 0, 1), 0, api.ErrLinks},
		{wide(20), link(7, 2, 1, 3, 1), 0, api.ErrLinks}, {wide(4), link(4, 1, 2, 0, 2), 0, api.ErrLinks}, {wide(4), link(8, 1, 2, 0, 1), 0, api.ErrLinks}, {chapter(), api.Link{}, 0, api.ErrLinks},
		{chapter(), link(0, 1, 4, 0, 1), 0, api.ErrLinks}, {chapter(), link(-1, 1, 4, 0, 1), 0, api.ErrLinks}, {chapter(), link(low, 1, 4, 0, 1), 0, api.ErrLinks}, {chapter(), link(10000, 1, 4, 0, 1), 0, api.ErrLinks}, {chapter(), link(huge, 1, 4, 0, 1), 0, api.ErrLinks},
		{chapter(), link(5, 4, 4, 0, 1), 0, api.ErrLinks}, {chapter(), link(5, 5, 4, 0, 1), 0, api.ErrLinks}, {chapter(), link(5, 1, 0, 0, 1), 0, api.ErrLinks}, {chapter(), link(5, 1, 4, -1, 1), 0, api.ErrLinks}, {chapter(), link(5, 1, 4, 501, 1), 0, api.ErrLinks}, {chapter(), link(5, 1, 4, huge, 1), 0, api.ErrLinks}, {chapter(), link(5, 1, 4, 0, 0), 0, api.ErrLinks}, {chapter(), link(5, 1, 4, 0, 2001), 0, api.ErrLinks}, {chapter(), link(5, 1, 4, 0, low), 0, api.ErrLinks},
		{row(1), link(1, 1, 1, 0, 1), 0, api.ErrLinks}, {row(1), link(1, 1, 2, 0, 1), 0, api.ErrLinks},
	} {
		want := api.Town{}
		if x.e == api.OK {
			want = x.y
			want.Links = slices.Insert(slices.Clone(x.y.Links), x.at, x.x)
		}
		if y, e := climb.Open(x.y, x.x); !same(y, want) || e != x.e {
			t.Error(i, y, e)
		}
	}
}

// P3.16: a link that is closed, and opened again, is as before.
func TestCloseAndOpen(t *testing.T) {
	for _, y := range []api.Town{chapter(), ring(), row(9), wide(20), apart(), great()} {
		for _, x := range y.Links {
			less, e := climb.Close(y, ints(x.Id))
			again, f := climb.Open(less, x)
			if same(less, y) || e != api.OK || !same(again, y) || f != api.OK {
				t.Error(x, less, e, again, f)
			}
		}
	}
}

// roomy is the chapter's town with memory behind the ends of its lists, which must stay as it is.
func roomy() api.Town {
	y := chapter()
	y.Places = append(make([]int, 0, 12), y.Places...)
	y.Links = append(make([]api.Link, 0, 24), y.Links...)
	return y
}

// whole shows the memory of the lists up to its end.
func whole(y api.Town) api.Town {
	return api.Town{Places: y.Places[:cap(y.Places)], Links: y.Links[:cap(y.Links)]}
}

// spoil writes over all memory of what was told.
func (a told) spoil() {
	y := whole(a.town)
	for _, l := range [][]int{y.Places, a.l[:cap(a.l)], a.n} {
		for i := range l {
			l[i] = 77
		}
	}
	for i := range y.Links {
		y.Links[i].Id = 77
	}
}

// full asks for something that each call answers of the chapter's town.
func full(walk, stops, links []int) given {
	return given{from: 1, to: 4, walk: walk, stops: stops, links: links, skin: skin(1000), gait: gait(), link: link(5, 4, 1, 1, 1)}
}

// R3: no argument is written to, nothing is remembered, and no result shares memory with an argument or with another one.
func TestValues(t *testing.T) {
	list := func(l ...int) []int { return append(make([]int, 0, 8), l...) }
	y, walk, stops, links := roomy(), list(2, 3, 4), list(4, 2, 3), list(1, 3)
	unchanged := func() bool {
		return same(whole(y), whole(roomy())) && slices.Equal(walk[:8], ints(2, 3, 4, 0, 0, 0, 0, 0)) &&
			slices.Equal(stops[:8], ints(4, 2, 3, 0, 0, 0, 0, 0)) && slices.Equal(links[:8], ints(1, 3, 0, 0, 0, 0, 0, 0))
	}
	fresh := calls(full(ints(2, 3, 4), ints(4, 2, 3), ints(1, 3)))
	for i, c := range calls(full(walk, stops, links)) {
		a := c.run(y)
		b := c.run(y)
		want := fresh[i].run(roomy())
		if !a.equal(want) || !b.equal(want) || a.e != api.OK {
			t.Error(c.name, a, b, want)
		}
		if !unchanged() {
			t.Error(c.name, "writes", whole(y), walk[:8], stops[:8], links[:8])
		}
		a.spoil()
		if !unchanged() || !b.equal(want) {
			t.Error(c.name, "shares memory", b)
		}
		if z := c.run(y); !z.equal(want) {
			t.Error(c.name, "remembers", z)
		}
	}
}

// R4: a nil list and an empty one are the same.
func TestNilAndEmpty(t *testing.T) {
	bare := api.Town{Places: ints(1, 2)}
	empty := bare
	empty.Links = []api.Link{}
	with, without := calls(given{from: 1, to: 1}), calls(given{from: 1, to: 1, walk: ints(), stops: ints(), links: ints()})
	for i := range with {
		if a, b := with[i].run(bare), without[i].run(empty); !a.equal(b) {
			t.Error(with[i].name, a, b)
		}
	}
	for _, y := range []api.Town{{}, {Places: ints(), Links: []api.Link{}}} {
		if e := climb.Check(y); e != api.ErrTown {
			t.Error(e)
		}
	}
}

// R5, R6, R7: whatever the arguments are, each call ends, and does not panic.
func TestAnyValue(t *testing.T) {
	r := &dice{state: 3}
	odd := ints(low, low+1, -1, 0, 1, 2, 3, 4, 5, 20, 50, 500, 501, 2000, 2001, 9999, 10000, 100000, huge-1, huge)
	some := func() int { return r.one(odd) }
	near := func() int {
		if r.upTo(0, 9) == 0 {
			return some()
		}
		return r.upTo(1, 4)
	}
	answered := 0
	for range 6000 {
		y := chapter()
		for _, p := range []*int{&y.Places[0], &y.Places[1], &y.Places[3], &y.Links[0].Id, &y.Links[1].From, &y.Links[2].To, &y.Links[3].Steps, &y.Links[0].Paces, &y.Links[3].Id} {
			if r.upTo(0, 20) == 0 {
				*p = some()
			}
		}
		g := given{
			from: near(), to: near(), donkey: r.upTo(0, 1) == 1,
			walk: ints(near(), near()), stops: ints(near(), near()), links: ints(near(), near()),
			skin: api.Skin{Drops: some(), Pace: span(near(), near()), Step: span(near(), near())},
			gait: api.Gait{Pace: span(near(), near()), Step: span(near(), near())},
			link: link(some(), near(), near(), some(), some()),
		}
		for _, c := range calls(g) {
			z := c.run(y)
			if (z.e == api.ErrTown) != (climb.Check(y) == api.ErrTown) || z.e != api.OK && !z.isZero() {
				t.Fatal(c.name, y, g, z)
			}
			if z.e == api.OK && c.name != "Check" {
				answered++
			}
		}
	}
	if answered < 5000 {
		t.Error("too few calls answer:", answered)
	}
}

// R7: lists however long are looked at, and each call ends.
func TestLongLists(t *testing.T) {
	long := slices.Repeat(ints(1), 1<<20)
	g := full(long, long, long)
	expect(t, chapter(), g, api.ErrWalk, "Walk", "End", "Seconds")
	expect(t, chapter(), g, api.ErrStops, "Round", "Order")
	expect(t, chapter(), g, api.ErrLinks, "Close")
	for _, y := range []api.Town{{Places: long}, {Places: ints(1, 2), Links: slices.Repeat(wide(1).Links, 1<<20)}} {
		for _, c := range calls(g) {
			if z := c.run(y); z.e != api.ErrTown || !z.isZero() {
				t.Error(c.name, z.e)
			}
		}
	}
}
