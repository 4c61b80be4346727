package queue_test

import (
	"slices"
	"testing"

	"aguador/api"
	"aguador/queue"
)

// evens has n notes with the Numbers 2, 4 and so on.
func evens(n int) (l []api.Begun) {
	for i := range n {
		l = append(l, note(2*i+2, 1, 0, i))
	}
	return l
}

// P2.7: a note is put in its place.
func TestPut(t *testing.T) {
	five := note(5, 4, 0, 9)
	for i, x := range []struct {
		d    api.Dawn
		x    api.Begun
		want []api.Begun
		e    api.Errno
	}{
		{chapter(), five, []api.Begun{five}, api.OK}, {chapter(evens(2)...), five, append(evens(2), five), api.OK},
		{chapter(evens(2)...), note(1, 1, 0, huge), append([]api.Begun{note(1, 1, 0, huge)}, evens(2)...), api.OK},
		{chapter(evens(7)...), five, slices.Insert(evens(7), 2, five), api.OK}, {chapter(evens(2)...), note(9999, 1, 9, 9), append(evens(2), note(9999, 1, 9, 9)), api.OK},
		{torn(), note(3, 3, huge, huge), append(torn().Notes, note(3, 3, huge, huge)), api.OK},
		{chapter(evens(8)...), five, nil, api.ErrFull}, {chapter(evens(8)...), api.Begun{}, nil, api.ErrFull}, {nobody(), five, nil, api.ErrBegun},
		{chapter(evens(2)...), note(2, 1, 0, 0), nil, api.ErrBegun}, {chapter(evens(2)...), note(4, 1, 0, 1), nil, api.ErrBegun},
		{chapter(), note(0, 1, 0, 0), nil, api.ErrBegun}, {chapter(), note(10000, 1, 0, 0), nil, api.ErrBegun}, {chapter(), note(low, 1, 0, 0), nil, api.ErrBegun}, {chapter(), note(huge, 1, 0, 0), nil, api.ErrBegun},
		{chapter(), note(1, 5, 0, 0), nil, api.ErrBegun}, {chapter(), note(1, 0, 0, 0), nil, api.ErrBegun}, {chapter(), note(1, 1, -1, 0), nil, api.ErrBegun}, {chapter(), note(1, 1, 1, 0), nil, api.ErrBegun},
	} {
		want := api.Dawn{}
		if x.e == api.OK {
			want = x.d
			want.Notes = x.want
		}
		if y, e := queue.Put(x.d, x.x); !same(y, want) || e != x.e {
			t.Error(i, y, e)
		}
	}
}

// P2.7: only Numbers of notes, in increasing order, no one twice.
func TestStrike(t *testing.T) {
	for i, x := range []struct {
		numbers []int
		want    []api.Begun
		e       api.Errno
	}{
		{nil, evens(4), api.OK}, {ints(), evens(4), api.OK}, {ints(2), evens(4)[1:], api.OK}, {ints(8), evens(3), api.OK},
		{ints(4, 6), []api.Begun{evens(4)[0], evens(4)[3]}, api.OK}, {ints(2, 4, 6, 8), nil, api.OK},
		{ints(4, 2), nil, api.ErrBegun}, {ints(2, 2), nil, api.ErrBegun}, {ints(3), nil, api.ErrBegun}, {ints(0), nil, api.ErrBegun}, {ints(-2), nil, api.ErrBegun},
		{ints(2, 10), nil, api.ErrBegun}, {ints(2, 4, 6, 8, 10), nil, api.ErrBegun}, {ints(low), nil, api.ErrBegun}, {ints(2, huge), nil, api.ErrBegun},
	} {
		d := chapter(evens(4)...)
		want := api.Dawn{}
		if x.e == api.OK {
			want = d
			want.Notes = x.want
		}
		if y, e := queue.Strike(d, x.numbers); !same(y, want) || e != x.e {
			t.Error(i, y, e)
		}
	}
	if y, e := queue.Strike(torn(), ints(1)); !same(y, chapter(note(2, 2, 3, 3))) || e != api.OK {
		t.Error(y, e)
	}
}

// P2.7: a comer is put in its place.
func TestAdd(t *testing.T) {
	apart := chapter()
	apart.Comers[3].Id = 8
	for i, x := range []struct {
		d  api.Dawn
		c  api.Comer
		at int
		e  api.Errno
	}{
		{chapter(), comer(9, 3, 240, 5), 4, api.OK}, {chapter(), comer(9999, 1, 0, 1), 4, api.OK}, {apart, comer(5, 1, 0, 1), 3, api.OK}, {torn(), comer(5, 1, 0, 1), 4, api.OK},
		{api.Dawn{Fill: span(1, 1), Ranks: ints(1)}, comer(1, 1, 0, 1), 0, api.OK}, {nobody(), comer(1, 1, 0, 1), 0, api.ErrArg},
		{stair(), comer(1, 1, 0, 1), 0, api.ErrFull}, {stair(), api.Comer{}, 0, api.ErrFull},
		{chapter(), comer(4, 1, 0, 1), 0, api.ErrArg}, {chapter(), comer(0, 1, 0, 1), 0, api.ErrArg}, {chapter(), comer(low, 1, 0, 1), 0, api.ErrArg}, {chapter(), comer(10000, 1, 0, 1), 0, api.ErrArg}, {chapter(), comer(huge, 1, 0, 1), 0, api.ErrArg},
		{chapter(), comer(9, 0, 0, 1), 0, api.ErrArg}, {chapter(), comer(9, 4, 0, 1), 0, api.ErrArg}, {chapter(), comer(9, 1, -1, 1), 0, api.ErrArg}, {chapter(), comer(9, 1, 241, 1), 0, api.ErrArg}, {chapter(), comer(9, 1, 0, 0), 0, api.ErrArg}, {chapter(), comer(9, 1, 0, 6), 0, api.ErrArg},
	} {
		want := api.Dawn{}
		if x.e == api.OK {
			want = x.d
			want.Comers = slices.Insert(slices.Clone(x.d.Comers), x.at, x.c)
		}
		if y, e := queue.Add(x.d, x.c); !same(y, want) || e != x.e {
			t.Error(i, y, e)
		}
	}
}

// roomy is the chapter's dawn with memory behind the ends of its lists, which must stay as it is.
func roomy() api.Dawn {
	d := chapter(note(2, 3, 2, 6), note(5, 2, 3, 5))
	d.Ranks = append(make([]int, 0, 8), d.Ranks...)
	d.Comers = append(make([]api.Comer, 0, 8), d.Comers...)
	d.Notes = append(make([]api.Begun, 0, 12), d.Notes...)
	return d
}

// whole shows the memory of the lists up to its end.
func whole(d api.Dawn) api.Dawn {
	d.Ranks, d.Comers, d.Notes = d.Ranks[:cap(d.Ranks)], d.Comers[:cap(d.Comers)], d.Notes[:cap(d.Notes)]
	return d
}

// spoil writes over all memory of what was told.
func (a told) spoil() {
	d := whole(a.dawn)
	for i := range d.Ranks {
		d.Ranks[i] = 77
	}
	for i := range d.Comers {
		d.Comers[i].Come = 77
	}
	for i := range d.Notes {
		d.Notes[i].Comer = 77
	}
	for _, l := range append(a.lists, a.n) {
		for i := range l[:cap(l)] {
			l[:cap(l)][i] = 77
		}
	}
	clear(a.turns[:cap(a.turns)])
}

// full asks for something that each call answers of the chapter's dawn.
func full(numbers, minutes, order []int) given {
	return given{one: 2, other: 3, minute: 12, minutes: minutes, order: order, numbers: numbers, note: note(3, 4, 0, 9), comer: comer(9, 1, 0, 1)}
}

// R3: no argument is written to, nothing is remembered, and no result shares memory with an argument or with another one.
func TestValues(t *testing.T) {
	list := func(l ...int) []int { return append(make([]int, 0, 8), l...) }
	d, numbers, minutes, order := roomy(), list(2), list(2, 2, 2, 4), list(1, 3, 2, 4)
	unchanged := func() bool {
		return same(whole(d), whole(roomy())) && slices.Equal(numbers[:8], ints(2, 0, 0, 0, 0, 0, 0, 0)) &&
			slices.Equal(minutes[:8], ints(2, 2, 2, 4, 0, 0, 0, 0)) && slices.Equal(order[:8], ints(1, 3, 2, 4, 0, 0, 0, 0))
	}
	fresh := calls(full(ints(2), ints(2, 2, 2, 4), ints(1, 3, 2, 4)))
	for i, c := range calls(full(numbers, minutes, order)) {
		a := c.run(d)
		b := c.run(d)
		want := fresh[i].run(roomy())
		if !a.equal(want) || !b.equal(want) || a.e != api.OK {
			t.Error(c.name, a, b, want)
		}
		if !unchanged() {
			t.Error(c.name, "writes", whole(d), numbers[:8], minutes[:8], order[:8])
		}
		a.spoil()
		if !unchanged() || !b.equal(want) {
			t.Error(c.name, "shares memory", b)
		}
		if y := c.run(d); !y.equal(want) {
			t.Error(c.name, "remembers", y)
		}
	}
}

// R3: no list of a result shares memory with another list of it.
func TestListsApart(t *testing.T) {
	l, _ := queue.Orders(chapter())
	for i := range l[0][:cap(l[0])] {
		l[0][:cap(l[0])][i] = 77
	}
	if !slices.Equal(l[1], ints(1, 3, 2, 4)) {
		t.Error(l)
	}
}

// R4: a nil list and an empty one are the same.
func TestNilAndEmpty(t *testing.T) {
	bare := api.Dawn{Open: 3, Fill: span(1, 2)}
	empty := bare
	empty.Ranks, empty.Comers, empty.Notes = ints(), []api.Comer{}, []api.Begun{}
	with, without := calls(given{}), calls(given{minutes: ints(), order: ints(), numbers: ints()})
	for i := range with {
		if y, z := with[i].run(bare), without[i].run(empty); !y.equal(z) {
			t.Error(with[i].name, y, z)
		}
	}
}

// R5, R6, R7: whatever the arguments are, each call ends, and does not panic.
func TestAnyValue(t *testing.T) {
	r := &dice{state: 3}
	odd := ints(low, low+1, -1, 0, 1, 2, 3, 4, 6, 7, 9, 10, 240, 241, 9999, huge-1, huge)
	some := func() int { return odd[r.upTo(0, len(odd)-1)] }
	for range 4000 {
		d := chapter(note(2, 3, 2, 6), note(5, 2, 3, 5))
		for _, p := range []*int{&d.Open, &d.Fill.Lo, &d.Fill.Hi, &d.Ranks[0], &d.Ranks[2], &d.Comers[0].Guild, &d.Comers[1].Come, &d.Comers[2].Skins, &d.Comers[3].Id, &d.Notes[0].Comer, &d.Notes[0].At.Lo, &d.Notes[1].At.Hi, &d.Notes[1].Number} {
			if r.upTo(0, 12) == 0 {
				*p = some()
			}
		}
		g := given{
			one: some(), other: some(), minute: some(),
			minutes: ints(2, 2, some(), some()), order: ints(some(), 1, some(), 4), numbers: ints(some(), some()),
			note: note(some(), some(), some(), some()), comer: comer(some(), some(), some(), some()),
		}
		for _, c := range calls(g) {
			y := c.run(d)
			if (y.e == api.ErrDawn) != (queue.Check(d) == api.ErrDawn) || y.e != api.OK && !y.isZero() {
				t.Fatal(c.name, d, y)
			}
		}
	}
}

// R7, P2.8, P2.10: the longest queue ends, too, and whoever fills how long, it is as it is told.
func TestLongestQueue(t *testing.T) {
	d := stair()
	d.Fill = span(1, 9)
	for i := range d.Comers {
		d.Comers[i].Come, d.Comers[i].Skins = 8*i, 5
	}
	for i := range 8 {
		d.Notes = append(d.Notes, note(i+1, 10*(i%6)+10, 0, 240+i))
	}
	g := full(ints(1), ints(5, 45, 5, 45, 5, 45), ints(10, 20, 30, 40, 50, 60))
	g.one, g.other, g.minute, g.comer.Id = 20, 60, 70, 10
	for _, c := range calls(g) {
		if y := c.run(d); y.e != api.OK && c.name != "Put" && c.name != "Add" {
			t.Error(c.name, y)
		}
	}
	orders, _ := queue.Orders(d)
	r := &dice{state: 9}
	for range 20000 {
		f := served(d, ints(r.upTo(5, 45), r.upTo(5, 45), r.upTo(5, 45), r.upTo(5, 45), r.upTo(5, 45), r.upTo(5, 45)))
		if !slices.ContainsFunc(orders, func(l []int) bool { return slices.Equal(l, f.order()) }) {
			t.Fatal(f)
		}
	}
}
