package fire_test

import (
	"slices"
	"testing"

	"aguador/api"
	"aguador/fire"
)

// P10.1: what is valid, up to each limit and beyond it.
func TestCheck(t *testing.T) {
	for i, b := range []api.Bell{
		chapter(), most(), star(nil, nil), star(ints(-1), nil, full(1, 2)), star(nil, wells(well(1, 1, 1), well(2, 1, 1), well(3, 1, 1))), star(nil, nil, empty(1, 1), empty(2, 1), empty(3, 1), empty(4, 1), empty(5, 1), full(6, 1)),
		claimed(claim(1, 1, 0)), claimed(claim(9999, 4, huge)), claimed(claim(1, 2, 3), claim(2, 2, 3), claim(3, 1, 3)), {Town: api.Town{Places: ints(5)}, Place: 5, Wells: wells(), Porters: porters(), Claims: claims()},
	} {
		if e := fire.Check(b); e != api.OK {
			t.Error(i, b, e)
		}
	}
	for i, change := range []func(b *api.Bell){
		func(b *api.Bell) { *b = odd() }, func(b *api.Bell) { b.Town = api.Town{} }, func(b *api.Bell) { b.Town.Places = ints(1, 3, 2, 4) }, func(b *api.Bell) { b.Town.Places = ints(1, 2, 2, 3, 4) }, func(b *api.Bell) { b.Town.Places = ints(1, 2, 3, 4, 5, 6, 7, 8, 9, 10) }, func(b *api.Bell) { b.Town.Links = slices.Repeat(b.Town.Links, 2) }, func(b *api.Bell) { b.Town.Links[2].To = 3 },
		func(b *api.Bell) { b.Wells = wells(well(2, 1, 1), well(1, 1, 1)) }, func(b *api.Bell) { b.Wells = wells(well(2, 1, 1), well(2, 2, 2)) }, func(b *api.Bell) { b.Wells = wells(well(1, 1, 1), well(3, 1, 1), well(2, 1, 1)) }, func(b *api.Bell) { b.Wells = wells(well(1, 1, 1), well(2, 1, 1), well(3, 1, 1), well(4, 1, 1)) }, func(b *api.Bell) { b.Wells = wells(well(1, 1, 1), well(2, 5, 1)) }, func(b *api.Bell) { b.Wells = wells(well(1, 1, 1), well(2, 1, 0)) },
		func(b *api.Bell) { b.Porters = porters(empty(2, 1), empty(1, 1)) }, func(b *api.Bell) { b.Porters = porters(empty(1, 1), full(1, 2)) }, func(b *api.Bell) { b.Porters = porters(empty(1, 1), full(3, 1), empty(2, 1)) }, func(b *api.Bell) { b.Porters = append(b.Porters, empty(5, 1), empty(6, 1), empty(7, 1)) }, func(b *api.Bell) { b.Porters = append(b.Porters, full(5, 5)) },
		func(b *api.Bell) { b.Claims = claims(claim(2, 1, 0), claim(1, 1, 0)) }, func(b *api.Bell) { b.Claims = claims(claim(1, 1, 0), claim(1, 2, 0)) }, func(b *api.Bell) { b.Claims = claims(claim(1, 1, 0), claim(3, 1, 0), claim(2, 1, 0)) }, func(b *api.Bell) { b.Claims = claims(claim(1, 1, 0), claim(2, 5, 0)) }, func(b *api.Bell) { b.Claims = claims(claim(1, 1, 0), claim(2, 1, -1)) }, func(b *api.Bell) { b.Porters, b.Claims = nil, claims(claim(1, 1, 0)) }, func(b *api.Bell) {
			for i := range 9 {
				b.Claims = append(b.Claims, claim(i+1, 1, 0))
			}
		},
	} {
		checkBad(t, i, chapter(change))
	}
}

// checkBad checks that each call says that a bell is not valid, whatever else is wrong.
func checkBad(t *testing.T, i any, b api.Bell) {
	t.Helper()
	for _, g := range []given{{}, {porter: -1, well: -1, minute: -1, skins: -1, fee: -1, first: -1, numbers: ints(0), put: claim(-1, -1, -1), join: empty(-1, -1)}, {porter: 1, well: 10, minute: 5, skins: 1, put: claim(9, 1, 4), join: full(9, 1)}} {
		for _, c := range calls(g) {
			if z := c.run(b); z.e != api.ErrBell || !z.isZero() {
				t.Error(i, c.name, z)
			}
		}
	}
}

// P10.1, R5: each number of a bell, up to its limits, and beyond them.
func TestCheckNumbers(t *testing.T) {
	ids, places := ints(0, -1, 10000, huge, low), ints(0, -1, 5, 9999, 10000, huge, low)
	for i, x := range []struct {
		number func(b *api.Bell) *int
		good   []int
		bad    []int
	}{
		{func(b *api.Bell) *int { return &b.Town.Places[3] }, ints(4), append(ids, 3, 5)},
		{func(b *api.Bell) *int { return &b.Town.Links[2].Id }, ints(3, 9999), append(ids, 2)},
		{func(b *api.Bell) *int { return &b.Town.Links[0].From }, ints(1, 3, 4), append(places, 2)},
		{func(b *api.Bell) *int { return &b.Town.Links[0].Steps }, ints(0, 500), ints(-1, 501, huge, low)},
		{func(b *api.Bell) *int { return &b.Town.Links[0].Paces }, ints(1, 2000), ints(0, -1, 2001, huge, low)},
		{func(b *api.Bell) *int { return &b.Gait.Pace.Lo }, ints(0, 20), ints(-1, 21, huge, low)},
		{func(b *api.Bell) *int { return &b.Gait.Pace.Hi }, ints(10, 20), ints(9, 0, -1, 21, huge, low)},
		{func(b *api.Bell) *int { return &b.Gait.Step.Lo }, ints(0), ints(-1, 1, huge, low)},
		{func(b *api.Bell) *int { return &b.Gait.Step.Hi }, ints(0, 20), ints(-1, 21, huge, low)},
		{func(b *api.Bell) *int { return &b.Place }, ints(1, 2, 3, 4), places},
		{func(b *api.Bell) *int { return &b.Wells[0].Id }, ints(1, 9999), ids},
		{func(b *api.Bell) *int { return &b.Wells[0].Place }, ints(1, 2, 3, 4), places},
		{func(b *api.Bell) *int { return &b.Wells[0].Every }, ints(1, 15), ints(0, -1, 16, huge, low)},
		{func(b *api.Bell) *int { return &b.Porters[0].Id }, ints(1), append(ids, 2, 3, 9999)},
		{func(b *api.Bell) *int { return &b.Porters[1].Id }, ints(2), append(ids, 1, 3, 4, 9999)},
		{func(b *api.Bell) *int { return &b.Porters[3].Id }, ints(4), append(ids, 3, 2, 5, 9999)},
		{func(b *api.Bell) *int { return &b.Porters[0].At }, ints(1, 2, 3, 4), places},
		{func(b *api.Bell) *int { return &b.Porters[2].At }, ints(1, 2, 3, 4), places},
		{func(b *api.Bell) *int { return &b.Claims[0].Number }, ints(1, 3, 4), append(ids, 5, 6, 9999)},
		{func(b *api.Bell) *int { return &b.Claims[1].Number }, ints(4, 5, 9999), append(ids, 3, 1)},
		{func(b *api.Bell) *int { return &b.Claims[0].Porter }, ints(1, 2, 3, 4), places},
		{func(b *api.Bell) *int { return &b.Claims[1].Porter }, ints(1, 2, 3, 4), places},
		{func(b *api.Bell) *int { return &b.Claims[0].Minute }, ints(0, 1, 1000000, huge), ints(-1, -1000000, low)},
		{func(b *api.Bell) *int { return &b.Claims[1].Minute }, ints(0, huge), ints(-1, low)},
	} {
		change := func(n int) api.Bell {
			b := claimed(claim(3, 1, 4), claim(5, 4, 4))
			*x.number(&b) = n
			return b
		}
		for _, n := range x.good {
			if e := fire.Check(change(n)); e != api.OK {
				t.Error(i, n, e)
			}
		}
		for _, n := range x.bad {
			checkBad(t, i, change(n))
		}
	}
	// The Id of a porter without a claim may be any that is in its place.
	for _, n := range ints(5, 9999) {
		if e := fire.Check(chapter(func(b *api.Bell) { b.Porters[3].Id = n })); e != api.OK {
			t.Error(n, e)
		}
	}
	for _, n := range append(ids, 3, 2) {
		checkBad(t, n, chapter(func(b *api.Bell) { b.Porters[3].Id = n }))
	}
}

// P10.1 to P10.6, R1: errors in their order, whatever the numbers are.
func TestErrors(t *testing.T) {
	many := claimed(claim(1, 3, 0), claim(2, 2, 1), claim(3, 1, 3), claim(4, 4, 3))
	for _, b := range []api.Bell{chapter(), many} {
		for _, n := range ints(0, 5, -1, 9999, 10000, huge, low) {
			expect(t, b, given{porter: n, minute: n}, api.ErrNone, "Reach", "Can", "Helps", "Leave")
			expect(t, b, given{porter: n, minute: 5}, api.ErrNone, "Reach", "Can", "Helps", "Leave")
			expect(t, b, given{well: n}, api.ErrNone, "Stop")
		}
		// The Id of a porter is none of a well, and the other way round.
		expect(t, b, given{porter: 10, well: 1}, api.ErrNone, "Reach", "Can", "Helps", "Leave", "Stop")
		for _, minute := range ints(low, -1, 0, 5, huge) {
			expect(t, b, given{porter: 1, minute: minute}, api.OK, "Reach", "Can", "Send", "By", "Helps", "Crew", "Cover", "True")
		}
		for _, n := range ints(0, -1, low) {
			expect(t, b, given{skins: n}, api.ErrArg, "When")
			expect(t, star(nil, nil), given{skins: n}, api.ErrArg, "When")
		}
		for _, n := range ints(5, 6, 7, huge) {
			expect(t, b, given{skins: n}, api.ErrNone, "When")
		}
		for _, n := range ints(-1, api.MaxPence+1, huge, low) {
			expect(t, b, given{fee: n}, api.ErrFee, "Wages")
			expect(t, b, given{first: n}, api.ErrFee, "Wages")
			expect(t, b, given{fee: n, first: n}, api.ErrFee, "Wages")
		}
	}
	expect(t, many, given{fee: api.MaxPence, first: api.MaxPence}, api.ErrMany, "Wrong", "Wages")
	expect(t, chapter(), given{fee: api.MaxPence, first: api.MaxPence}, api.OK, "Wrong", "Wages")
}

// P10.2 to P10.6: the chapter's examples.
func TestChapter(t *testing.T) {
	b := chapter()
	for porter, want := range map[int]api.Span{1: span(4, 5), 2: span(2, 3), 3: span(2, 4), 4: span(4, 5)} {
		if x, e := fire.Reach(b, porter); x != want || e != api.OK {
			t.Error(porter, x, e)
		}
	}
	for minute, want := range map[int]uint8{4: api.KnownOpen, 5: api.KnownYes, 3: api.KnownNo} {
		if k, e := fire.Can(b, 1, minute); k != want || e != api.OK {
			t.Error(minute, k, e)
		}
	}
	if l, e := fire.Send(b); !slices.Equal(l, tasks(task(1, 10, 2, 5), task(2, 10, 1, 3), task(3, 0, 0, 4), task(4, 10, 3, 7))) || e != api.OK {
		t.Error(l, e)
	}
	for minute, want := range map[int]int{2: 0, 3: 1, 4: 2, 5: 3, 7: 4} {
		if n, e := fire.By(b, minute); n != want || e != api.OK {
			t.Error(minute, n, e)
		}
	}
	for skins, want := range map[int]int{2: 4, 4: 7, 5: -1} {
		n, e := fire.When(b, skins)
		expectNumber(t, skins, n, e, want, api.ErrNone)
	}
	if is, e := fire.Helps(b, 2, 4); !is || e != api.OK {
		t.Error(is, e)
	}
	if is, e := fire.Helps(b, 1, 5); is || e != api.OK {
		t.Error(is, e)
	}
	if l, e := fire.Crew(b, 5); !slices.Equal(l, ints(1, 2, 3)) || e != api.OK {
		t.Error(l, e)
	}
	if l, m, e := fire.Cover(b, 5); !slices.Equal(l, ints(3)) || !slices.Equal(m, beats(10, 1, 2)) || e != api.OK {
		t.Error(l, m, e)
	}
	b = claimed(claim(1, 1, 4), claim(2, 4, 4))
	if is, e := fire.True(b); is || e != api.OK {
		t.Error(is, e)
	}
	if l, e := fire.Wrong(b); !slices.Equal(l, ints(1)) || e != api.OK {
		t.Error(l, e)
	}
	if l, e := fire.Wages(b, 5, 3); !slices.Equal(l, wages(wage(4, 8))) || e != api.OK {
		t.Error(l, e)
	}
}

// P10.2: beats that begin as one comes, or a minute before, and the ways there and on, which are not the same up and down.
func TestReach(t *testing.T) {
	for i, x := range []struct {
		b    api.Bell
		want api.Span // of the porter 1; with Hi -1: it never is there
	}{
		{star(nil, nil, full(1, 1)), span(0, 0)}, {star(nil, nil, empty(1, 1)), span(0, -1)}, {star(ints(6), nil, full(1, 2)), span(6, 6)}, {star(ints(-1), nil, full(1, 2)), span(0, -1)}, {star(ints(6), wells(well(1, 1, 1)), full(1, 2)), span(6, 6)},
		{star(nil, wells(well(1, 1, 5)), empty(1, 1)), span(5, 5)}, {star(ints(4), wells(well(1, 2, 5)), empty(1, 2)), span(9, 9)}, {star(ints(4), wells(well(1, 2, 5)), empty(1, 1)), span(14, 14)}, {star(ints(5), wells(well(1, 2, 5)), empty(1, 1)), span(15, 15)}, {star(ints(6), wells(well(1, 2, 5)), empty(1, 1)), span(21, 21)}, {star(ints(6), wells(well(1, 2, 1)), empty(1, 1)), span(13, 13)}, {star(ints(16), wells(well(1, 2, 15)), empty(1, 1)), span(61, 61)},
		// The well is apart from the fire, or the porter from the well.
		{star(ints(-1), wells(well(1, 2, 5)), empty(1, 2)), span(0, -1)}, {star(ints(-1), wells(well(1, 1, 5)), empty(1, 2)), span(0, -1)}, {star(ints(-1, 1), wells(well(1, 2, 1), well(2, 3, 5)), empty(1, 3)), span(6, 6)}, {star(ints(-1, 1), wells(well(1, 3, 5), well(2, 2, 1)), empty(1, 3)), span(6, 6)},
		// Of several wells: the first, the last, the farther one, the slower one.
		{star(ints(3, 1), wells(well(1, 2, 2), well(2, 3, 15)), empty(1, 1)), span(9, 9)}, {star(ints(3, 1), wells(well(1, 2, 2), well(2, 3, 3)), empty(1, 1)), span(7, 7)}, {star(ints(3, 1, 1), wells(well(1, 2, 2), well(2, 3, 3), well(3, 4, 2)), empty(1, 1)), span(5, 5)}, {star(ints(3, 1), wells(well(1, 2, 2), well(2, 3, 9)), empty(1, 2)), span(5, 5)}, {star(ints(9, 1), wells(well(1, 2, 1), well(2, 3, 9)), empty(1, 3)), span(10, 10)},
		// Up the stair, and down it; with the way round it is not climbed.
		{stairs(1, false, nil, full(1, 2)), span(1, 1)}, {stairs(2, false, nil, full(1, 1)), span(2, 3)}, {stairs(2, true, nil, full(1, 1)), span(11, 11)}, {stairs(1, true, nil, full(1, 2)), span(1, 1)},
		{stairs(1, false, wells(well(1, 2, 4)), empty(1, 1)), span(9, 9)}, {stairs(1, false, wells(well(1, 2, 3)), empty(1, 1)), span(7, 7)}, {stairs(1, false, wells(well(1, 2, 2)), empty(1, 1)), span(5, 7)}, {stairs(2, false, wells(well(1, 1, 4)), empty(1, 1)), span(6, 7)}, {stairs(2, false, wells(well(1, 1, 1)), empty(1, 2)), span(4, 5)}, {stairs(1, true, wells(well(1, 2, 2)), empty(1, 1)), span(15, 15)},
		// Who is full goes straight, though it would be sooner over the hill, and by a well on top of it.
		{hill(full(1, 1)), span(11, 11)}, {hill(empty(1, 1)), span(4, 5)},
		// The minutes of both ways are rounded, each of them; in no time at all one is anywhere.
		{chapter(func(b *api.Bell) { b.Town.Links[0].Paces = 7 }), span(4, 7)}, {chapter(func(b *api.Bell) { b.Town.Links[0].Paces, b.Town.Links[1].Paces = 11, 5 }), span(4, 8)}, {chapter(func(b *api.Bell) { b.Gait = api.Gait{} }), span(2, 2)}, {most(), span(666, 667)},
	} {
		want, wantE := x.want, api.OK
		if x.want.Hi < 0 {
			want, wantE = api.Span{}, api.ErrNone
		}
		if y, e := fire.Reach(x.b, 1); y != want || e != wantE {
			t.Error(i, y, e)
		}
		for _, minute := range append(numbers(70), -1, low, huge, 665, 666, 667) {
			known := uint8(api.KnownOpen)
			if wantE != api.OK || minute < want.Lo {
				known = api.KnownNo
			} else if minute >= want.Hi {
				known = api.KnownYes
			}
			if k, e := fire.Can(x.b, 1, minute); k != known || e != api.OK {
				t.Error(i, minute, k, e)
			}
		}
	}
	// Down a stair of so many paces it takes 666 to 667 minutes, and down two of them 1,333 to 1,334.
	for porter, want := range map[int]api.Span{2: span(1350, 1350), 3: span(681, 682), 4: span(15, 15), 9998: span(0, 0)} {
		if x, e := fire.Reach(most(), porter); x != want || e != api.OK {
			t.Error(porter, x, e)
		}
	}
}

// P10.3, P10.8: who has which beat, and by when so many are there.
func TestSend(t *testing.T) {
	two := wells(well(1, 1, 4), well(2, 1, 2))
	five := porters(empty(1, 1), empty(2, 1), empty(3, 1), empty(4, 1), empty(5, 1))
	for i, x := range []struct {
		b    api.Bell
		want []api.Task
		when []int
	}{
		{star(nil, nil), nil, nil}, {star(nil, wells(well(1, 1, 1))), nil, nil}, {star(nil, nil, five...), nil, nil}, {star(ints(-1, 2), nil, full(1, 2), full(2, 3), full(3, 1)), tasks(task(2, 0, 0, 2), task(3, 0, 0, 0)), ints(0, 2)}, {star(ints(2), nil, full(1, 2), full(2, 2), full(9999, 2)), tasks(task(1, 0, 0, 2), task(2, 0, 0, 2), task(9999, 0, 0, 2)), ints(2, 2, 2)},
		{star(nil, wells(well(5, 1, 2)), five[:3]...), tasks(task(1, 5, 1, 2), task(2, 5, 2, 4), task(3, 5, 3, 6)), ints(2, 4, 6)},
		// The last one comes too late for the first beat, whatever its Id is.
		{star(ints(1), wells(well(1, 2, 3)), empty(1, 2), empty(2, 2), empty(3, 1)), tasks(task(1, 1, 1, 4), task(2, 1, 2, 7), task(3, 1, 3, 10)), ints(4, 7, 10)}, {star(ints(1), wells(well(1, 2, 3)), empty(1, 1), empty(2, 2), empty(3, 2)), tasks(task(1, 1, 2, 7), task(2, 1, 1, 4), task(3, 1, 3, 10)), ints(4, 7, 10)}, {star(ints(4), wells(well(1, 2, 3)), empty(1, 1), empty(2, 1), empty(3, 2)), tasks(task(1, 1, 3, 13), task(2, 1, 4, 16), task(3, 1, 1, 7)), ints(7, 13, 16)},
		// Wells that are as soon: the least Well for the least Id.
		{star(nil, two, five[:1]...), tasks(task(1, 2, 1, 2)), ints(2)}, {star(nil, two, five[:2]...), tasks(task(1, 1, 1, 4), task(2, 2, 1, 2)), ints(2, 4)}, {star(nil, two, five[:3]...), tasks(task(1, 1, 1, 4), task(2, 2, 1, 2), task(3, 2, 2, 4)), ints(2, 4, 4)}, {star(nil, two, five[:4]...), tasks(task(1, 1, 1, 4), task(2, 2, 1, 2), task(3, 2, 2, 4), task(4, 2, 3, 6)), ints(2, 4, 4, 6)}, {star(nil, two, five...), tasks(task(1, 1, 1, 4), task(2, 1, 2, 8), task(3, 2, 1, 2), task(4, 2, 2, 4), task(5, 2, 3, 6)), ints(2, 4, 4, 6, 8)},
		{star(nil, two, append(slices.Clone(five), full(6, 1))...), tasks(task(1, 1, 1, 4), task(2, 1, 2, 8), task(3, 2, 1, 2), task(4, 2, 2, 4), task(5, 2, 3, 6), task(6, 0, 0, 0)), ints(0, 2, 4, 4, 6, 8)},
		// One can go to one well only, for whom another one changes.
		{star(ints(-1, 3), wells(well(1, 1, 9), well(2, 3, 1)), empty(1, 3), empty(2, 2), empty(3, 3)), tasks(task(1, 2, 1, 4), task(3, 2, 2, 5)), ints(4, 5)}, {star(ints(8), wells(well(1, 1, 1), well(2, 2, 1)), empty(1, 2), empty(2, 1), empty(3, 2)), tasks(task(1, 1, 9, 9), task(2, 1, 1, 1), task(3, 2, 1, 9)), ints(1, 9, 9)},
		{hill(empty(1, 1), full(2, 1), empty(3, 1)), tasks(task(1, 7, 4, 5), task(2, 0, 0, 11), task(3, 7, 5, 6)), ints(5, 6, 11)},
		// It takes its greatest time up to the well, and on from there.
		{stairs(1, false, wells(well(1, 2, 2)), empty(1, 1), empty(2, 2)), tasks(task(1, 1, 3, 7), task(2, 1, 1, 3)), ints(3, 7)}, {stairs(2, false, wells(well(1, 1, 4)), empty(1, 1), full(2, 1)), tasks(task(1, 1, 1, 7), task(2, 0, 0, 3)), ints(3, 7)},
	} {
		if l, e := fire.Send(x.b); !slices.Equal(l, x.want) || e != api.OK {
			t.Error(i, l, e)
		}
		for k, minute := range append(slices.Clone(x.when), -1, -1) {
			n, e := fire.When(x.b, k+1)
			expectNumber(t, i, n, e, minute, api.ErrNone)
		}
		for _, minute := range append(numbers(20), low, -1, huge) {
			want := 0
			for _, at := range x.when {
				want += number(at <= minute)
			}
			if n, e := fire.By(x.b, minute); n != want || e != api.OK {
				t.Error(i, minute, n, e)
			}
		}
	}
}

// P10.4, P10.5, P10.9, P10.15: as few porters and beats as can be, with the fewest porters.
func TestCrew(t *testing.T) {
	six := porters(empty(1, 1), empty(2, 1), empty(3, 1), empty(4, 1), empty(5, 1), empty(6, 1))
	ids := ints(1, 2, 3, 4, 5, 6)
	three := wells(well(2, 1, 1), well(4, 1, 2), well(9, 1, 3))
	apart := star(ints(2, -1), wells(well(1, 2, 2), well(2, 3, 1)), full(1, 2), empty(2, 2), empty(5, 1), empty(7, 2), full(8, 3), empty(9, 3))
	for i, x := range []struct {
		b       api.Bell
		minute  int
		crew    []int
		porters []int
		beats   []api.Beat
		helps   []int
	}{
		{star(nil, nil), 5, nil, nil, nil, nil}, {star(nil, nil, six...), huge, nil, nil, nil, nil}, {star(nil, nil, full(3, 1)), -1, nil, nil, nil, nil}, {star(nil, nil, full(3, 1)), 0, ints(3), ints(3), nil, ints(3)}, {star(nil, nil, full(3, 1), full(4, 1)), huge, ints(3, 4), ints(3, 4), nil, ints(3, 4)},
		{star(nil, wells(well(5, 1, 2)), empty(7, 1)), 1, nil, nil, nil, nil}, {star(nil, wells(well(5, 1, 2)), empty(7, 1)), 2, ints(7), nil, beats(5, 1, 1), ints(7)}, {star(nil, wells(well(5, 1, 2)), empty(7, 1)), 3, ints(7), nil, beats(5, 1, 1), ints(7)}, {star(nil, wells(well(5, 1, 2)), empty(7, 1)), 4, ints(7), ints(7), nil, ints(7)}, {star(nil, wells(well(5, 1, 2)), empty(7, 1)), huge, ints(7), ints(7), nil, ints(7)},
		{star(nil, wells(well(5, 1, 1)), six...), 5, ints(1, 2, 3, 4, 5), nil, beats(5, 1, 5), nil}, {star(nil, wells(well(5, 1, 1)), six...), 6, ids, nil, beats(5, 1, 6), ids}, {star(nil, wells(well(5, 1, 1)), six...), 7, ids, ids, nil, ids}, {star(nil, wells(well(5, 1, 1)), six...), huge, ids, ids, nil, ids}, {star(nil, wells(well(5, 1, 1)), six...), 0, nil, nil, nil, nil},
		{star(nil, three, six...), 3, ints(1, 2, 3, 4, 5), nil, slices.Concat(beats(2, 1, 3), beats(4, 1, 1), beats(9, 1, 1)), nil}, {star(nil, three, six...), 4, ids, ids, nil, ids}, {star(nil, three, six...), 2, ints(1, 2, 3), nil, slices.Concat(beats(2, 1, 2), beats(4, 1, 1)), nil},
		// A full one is a porter of each cover; the beats 1 and 2 are for 2 and 7, the beat 2 and later ones for 5.
		{apart, 3, ints(1), ints(1), nil, ints(1)}, {apart, 4, ints(1, 2), ints(1), beats(1, 1, 1), ints(1)}, {apart, 6, ints(1, 2, 5), ints(1), beats(1, 1, 2), ints(1)}, {apart, 8, ints(1, 2, 5, 7), ints(1), beats(1, 1, 3), ints(1, 2, 5, 7)}, {apart, 10, ints(1, 2, 5, 7), ints(1, 2, 5, 7), nil, ints(1, 2, 5, 7)},
		{hill(empty(1, 1), full(2, 1)), 10, ints(1), ints(1), nil, ints(1)}, {hill(empty(1, 1), full(2, 1)), 5, ints(1), nil, beats(7, 4, 1), ints(1)}, {hill(full(1, 1), full(2, 1)), 10, nil, nil, nil, nil}, {hill(full(1, 1), empty(2, 1)), 11, ints(1, 2), ints(1, 2), nil, ints(1, 2)},
		// One has a beat of its own well, the other ones have more than they can take.
		{star(ints(9), wells(well(1, 1, 1), well(2, 2, 4)), empty(1, 2), empty(2, 1), empty(3, 1)), 13, ints(1, 2, 3), ints(1, 2, 3), nil, ints(1, 2, 3)}, {star(ints(11), wells(well(1, 1, 1), well(2, 2, 2)), empty(1, 2), empty(2, 1), empty(3, 1)), 13, ints(1, 2, 3), ints(1, 2, 3), nil, ints(1, 2, 3)}, {star(ints(11), wells(well(1, 1, 5), well(2, 2, 2)), empty(1, 2), empty(4, 2), empty(7, 1)), 13, ints(1, 7), ints(7), beats(2, 1, 1), ints(7)}, {star(ints(11), wells(well(1, 1, 5), well(2, 2, 2)), empty(4, 1), empty(7, 2), empty(8, 2)), 13, ints(4, 7), ints(4), beats(2, 1, 1), ints(4)},
	} {
		if l, e := fire.Crew(x.b, x.minute); !slices.Equal(l, x.crew) || e != api.OK {
			t.Error(i, l, e)
		}
		if n, e := fire.By(x.b, x.minute); n != len(x.crew) || e != api.OK {
			t.Error(i, n, e)
		}
		if l, m, e := fire.Cover(x.b, x.minute); !slices.Equal(l, x.porters) || !slices.Equal(m, x.beats) || e != api.OK {
			t.Error(i, l, m, e)
		}
		for _, y := range x.b.Porters {
			if is, e := fire.Helps(x.b, y.Id, x.minute); is != slices.Contains(x.helps, y.Id) || e != api.OK {
				t.Error(i, y, is, e)
			}
		}
	}
}

// P10.6, P10.12: claims that are true together, or too many that are not.
func TestClaims(t *testing.T) {
	for i, x := range []struct {
		b     api.Bell
		wrong []int // nil: all can be true
		e     api.Errno
	}{
		{chapter(), nil, api.OK}, {claimed(claim(7, 1, 4)), nil, api.OK}, {claimed(claim(7, 1, 3)), ints(7), api.OK}, {claimed(claim(7, 3, 2)), nil, api.OK}, {claimed(claim(7, 3, 1)), ints(7), api.OK}, {claimed(claim(7, 3, huge)), nil, api.OK},
		// One porter, several claims: the least minute counts, wherever it stands.
		{claimed(claim(1, 1, 9), claim(2, 1, 4), claim(3, 1, 7)), nil, api.OK}, {claimed(claim(1, 1, 9), claim(2, 1, 3), claim(3, 1, 7)), ints(2), api.OK}, {claimed(claim(1, 1, 3), claim(2, 1, 9), claim(3, 1, 2)), ints(1, 3), api.OK}, {claimed(claim(1, 4, 9), claim(2, 4, 4), claim(3, 1, 4)), ints(2), api.OK},
		// Beats of one well: 1 and 4 are too late for the first one.
		{claimed(claim(1, 1, 4), claim(2, 2, 2)), nil, api.OK}, {claimed(claim(1, 1, 4), claim(2, 2, 4)), nil, api.OK}, {claimed(claim(1, 1, 6), claim(2, 2, 4), claim(3, 4, 4)), nil, api.OK}, {claimed(claim(1, 1, 4), claim(2, 2, 6), claim(3, 4, 6)), nil, api.OK}, {claimed(claim(1, 1, 5), claim(2, 2, 1), claim(3, 4, 5)), ints(1, 2), api.OK}, {claimed(claim(1, 2, 2), claim(2, 1, 5), claim(3, 4, 5)), ints(2), api.OK}, {claimed(claim(1, 4, 4), claim(2, 1, 5), claim(3, 4, 5)), ints(2), api.OK},
		{claimed(claim(1, 3, 0), claim(2, 3, 1), claim(3, 1, 3), claim(4, 2, 2)), ints(1, 2, 3), api.OK}, {claimed(claim(1, 3, 0), claim(2, 3, 1), claim(3, 1, 3), claim(4, 2, 1)), nil, api.ErrMany}, {claimed(claim(1, 2, 9), claim(2, 3, 0), claim(3, 3, 1), claim(4, 1, 4), claim(5, 4, 4)), ints(2, 3, 4), api.OK}, {claimed(claim(1, 2, 0), claim(2, 2, 0), claim(3, 2, 0), claim(4, 2, 0), claim(5, 2, 0), claim(6, 2, 0), claim(7, 2, 0), claim(8, 2, 0)), nil, api.ErrMany}, {claimed(claim(1, 2, 2), claim(2, 2, 3), claim(3, 2, 4), claim(4, 2, 5), claim(5, 2, 6), claim(6, 2, 7), claim(7, 2, 8), claim(8, 2, 1)), ints(8), api.OK},
		{with(hill(full(1, 1), empty(2, 1)), claim(1, 2, 4), claim(2, 1, 10)), ints(2), api.OK},
		// Who never is there, and who surely is not by then, but can be.
		{with(star(ints(-1), wells(well(1, 1, 1)), empty(1, 2), empty(2, 1)), claim(1, 2, 1), claim(2, 1, huge)), ints(2), api.OK}, {with(stairs(2, false, nil, full(1, 1)), claim(1, 1, 2)), nil, api.OK}, {with(stairs(1, false, wells(well(1, 2, 2)), empty(1, 1), empty(2, 1)), claim(1, 1, 5), claim(2, 2, 7)), nil, api.OK}, {with(stairs(1, false, wells(well(1, 2, 2)), empty(1, 1), empty(2, 1)), claim(1, 1, 5), claim(2, 2, 6)), ints(1), api.OK},
	} {
		if l, e := fire.Wrong(x.b); !slices.Equal(l, x.wrong) || e != x.e {
			t.Error(i, l, e)
		}
		if is, e := fire.True(x.b); is != (x.e == api.OK && len(x.wrong) == 0) || e != api.OK {
			t.Error(i, is, e)
		}
	}
}

// P10.6, P10.13: a fee for each porter, once, and more for the first one.
func TestWages(t *testing.T) {
	for i, x := range []struct {
		l          []api.Claim
		fee, first int
		want       []api.Wage
	}{
		{nil, 5, 3, nil}, {claims(claim(1, 3, 0)), 5, 3, nil}, {claims(claim(1, 3, 2)), 5, 3, wages(wage(3, 8))}, {claims(claim(1, 3, 2)), 0, 0, wages(wage(3, 0))}, {claims(claim(1, 3, 2)), 0, 3, wages(wage(3, 3))}, {claims(claim(1, 3, 2)), api.MaxPence, api.MaxPence, wages(wage(3, 2*api.MaxPence))}, {claims(claim(1, 3, 2), claim(2, 1, 4)), 5, 0, wages(wage(1, 5), wage(3, 5))},
		// The least minute, wherever it stands; of one minute the least Id of a porter, not of a claim.
		{claims(claim(1, 2, 9), claim(2, 4, 6)), 5, 3, wages(wage(2, 5), wage(4, 8))}, {claims(claim(1, 4, 6), claim(2, 2, 6)), 5, 3, wages(wage(2, 8), wage(4, 5))}, {claims(claim(1, 4, 6), claim(2, 3, 6), claim(3, 2, 6)), 5, 3, wages(wage(2, 8), wage(3, 5), wage(4, 5))}, {claims(claim(1, 1, 4), claim(2, 2, 4)), 5, 3, wages(wage(1, 8), wage(2, 5))}, {claims(claim(1, 1, huge), claim(2, 2, huge-1)), 5, 3, wages(wage(1, 5), wage(2, 8))},
		// Several claims of one, and one that is false, which is not the first one.
		{claims(claim(1, 2, 9), claim(2, 2, 8), claim(3, 3, 8)), 5, 3, wages(wage(2, 8), wage(3, 5))}, {claims(claim(1, 2, 1), claim(2, 2, 8), claim(3, 3, 7)), 5, 3, wages(wage(2, 5), wage(3, 8))}, {claims(claim(1, 2, 0), claim(2, 3, 0), claim(3, 1, 0), claim(4, 4, 8)), 5, 3, wages(wage(4, 8))}, {claims(claim(1, 1, 4), claim(2, 4, 4), claim(3, 1, 6)), 5, 3, wages(wage(1, 5), wage(4, 8))},
	} {
		if l, e := fire.Wages(claimed(x.l...), x.fee, x.first); !slices.Equal(l, x.want) || e != api.OK {
			t.Error(i, l, e)
		}
	}
}
