package floor_test

import (
	"slices"
	"testing"

	"aguador/api"
	"aguador/floor"
)

// P8.1: what is valid, up to each limit and beyond it.
func TestCheck(t *testing.T) {
	six := ints(1, 2, 3, 4, 5, 6)
	all := with(chapter(), 1, 2, 1, 3, 1, 4, 2, 3, 2, 4, 3, 4)
	most := bill(9999, 6, api.MaxPence, 1, 9, 2, 9, 3, 9, 4, 9, 5, 9, 6, 9)
	for i, f := range []api.Floors{
		{}, {Ids: ints()}, {Ids: ints(1)}, {Ids: ints(9999)}, {Ids: six}, {Ids: ints(1, 9999)}, chapter(), chapter(1, 3), all, fullPaid(), fullBills(),
		{Ids: six, Quarrels: quarrels(1, 2, 1, 3, 1, 4, 1, 5, 1, 6, 2, 3, 2, 4, 2, 5, 2, 6, 3, 4, 3, 5, 3, 6, 4, 5, 4, 6, 5, 6)}, {Ids: six, Bills: bills(most)}, {Ids: six, Bills: bills(bill(1, 1, 1, 1, 1), most)}, {Ids: six, Paid: pays(pay(6, 1, 1), pay(1, 6, api.MaxPence), pay(6, 1, 1))}, {Ids: ints(5), Bills: bills(bill(1, 5, 1, 5, 1))},
		// Those who do not speak may have paid.
		{Ids: ints(1, 2), Quarrels: quarrels(1, 2), Paid: pays(pay(1, 2, 5), pay(2, 1, 5))},
	} {
		if e := floor.Check(f); e != api.OK {
			t.Error(i, f, e)
		}
	}
	for i, f := range []api.Floors{
		odd(), {Ids: ints(-1)}, {Ids: ints(10000)}, {Ids: ints(1, 10000)}, {Ids: ints(low, 1)}, {Ids: ints(1, huge)}, {Ids: ints(1, 2, 3, 4, 5, 6, 7)}, {Ids: ints(1, 1)}, {Ids: ints(2, 1)}, {Ids: ints(1, 2, 3, 3)}, {Ids: ints(1, 3, 2, 4)}, {Ids: ints(1, 2, 3, 4, 6, 5)},
		{Quarrels: quarrels(1, 2)}, {Bills: bills(bill(1, 1, 1, 1, 1))}, {Paid: pays(pay(1, 2, 1))},
		with(chapter(), 1, 1), with(chapter(), 3, 1), with(chapter(), 1, 5), with(chapter(), 0, 1), with(chapter(), -1, 1), with(chapter(), low, huge), with(chapter(), 5, 6), with(chapter(), 1, 2, 1, 2), with(chapter(), 1, 3, 1, 2), with(chapter(), 2, 3, 1, 4), with(chapter(), 1, 2, 2, 3, 1, 3), with(chapter(), 1, 2, 3, 4, 3, 4),
		{Ids: ints(1), Paid: pays(pay(1, 1, 1))},
	} {
		checkBad(t, i, f)
	}
	full := chapter()
	full.Paid = times(13, pay(1, 2, 1))
	checkBad(t, 0, full)
	full = fullBills()
	full.Bills = append(full.Bills, bill(100, 1, 1, 1, 1))
	checkBad(t, 1, full)
}

// checkBad checks that each call says that floors are not valid, whatever else is wrong.
func checkBad(t *testing.T, i any, f api.Floors) {
	t.Helper()
	for _, g := range []given{{}, {number: 1, list: times(13, pay(0, 0, 0)), some: ints(0), rates: api.Rates{Skin: -1}}, {number: 1, some: ints(1), payment: pay(1, 2, 1), bill: bill(3, 1, 1, 1, 1), tally: nine(), rates: rates(), split: quarrel(1, 2)}} {
		for _, c := range calls(g) {
			if z := c.run(f); z.e != api.ErrFloors || !z.isZero() {
				t.Error(i, c.name, f, z)
			}
		}
	}
}

// P8.1, R5: each number of a bill and of a payment, up to its limits, and beyond them.
func TestCheckNumbers(t *testing.T) {
	for i, x := range []struct {
		number func(f *api.Floors) *int
		good   []int
		bad    []int
	}{
		{func(f *api.Floors) *int { return &f.Bills[0].Number }, ints(1), ints(0, -1, 2, 3, 9999, 10000, huge, low)},
		{func(f *api.Floors) *int { return &f.Bills[1].Number }, ints(2, 3, 9999), ints(1, 0, -1, 10000, huge, low)},
		{func(f *api.Floors) *int { return &f.Bills[0].Payer }, ints(1, 2, 3, 4), ints(0, 5, -1, huge, low)},
		{func(f *api.Floors) *int { return &f.Bills[1].Payer }, ints(1, 2, 3, 4), ints(0, 5, -1, huge, low)},
		{func(f *api.Floors) *int { return &f.Bills[0].Pence }, ints(1, 999999, 1000000), ints(0, -1, 1000001, huge, low)},
		{func(f *api.Floors) *int { return &f.Bills[1].Pence }, ints(1, 999999, 1000000), ints(0, -1, 1000001, huge, low)},
		{func(f *api.Floors) *int { return &f.Bills[0].Stakes[0].Floor }, ints(1), ints(0, -1, 2, 3, 4, 5, huge, low)},
		{func(f *api.Floors) *int { return &f.Bills[0].Stakes[2].Floor }, ints(3, 4), ints(0, -1, 1, 2, 5, huge, low)},
		{func(f *api.Floors) *int { return &f.Bills[1].Stakes[0].Floor }, ints(1, 2, 3), ints(0, -1, 4, 5, huge, low)},
		{func(f *api.Floors) *int { return &f.Bills[0].Stakes[0].Parts }, ints(1, 9), ints(0, -1, 10, huge, low)},
		{func(f *api.Floors) *int { return &f.Bills[1].Stakes[1].Parts }, ints(1, 9), ints(0, -1, 10, huge, low)},
		{func(f *api.Floors) *int { return &f.Paid[0].From }, ints(2, 3, 4), ints(0, -1, 1, 5, huge, low)},
		{func(f *api.Floors) *int { return &f.Paid[1].To }, ints(1, 2, 4), ints(0, -1, 3, 5, huge, low)},
		{func(f *api.Floors) *int { return &f.Paid[0].Pence }, ints(1, 1000000), ints(0, -1, 1000001, huge, low)},
		{func(f *api.Floors) *int { return &f.Paid[1].Pence }, ints(1, 1000000), ints(0, -1, 1000001, huge, low)},
	} {
		change := func(n int) api.Floors {
			f := chapter()
			f.Paid = pays(pay(2, 1, 5), pay(3, 4, 6))
			*x.number(&f) = n
			return f
		}
		for _, n := range x.good {
			if e := floor.Check(change(n)); e != api.OK {
				t.Error(i, n, e)
			}
		}
		for _, n := range x.bad {
			checkBad(t, i, change(n))
		}
	}
	f := chapter()
	f.Bills[0].Stakes = nil
	checkBad(t, "no stake", f)
	f.Bills[0].Stakes = []api.Stake{}
	checkBad(t, "no stake", f)
}

// P8.1, R1: errors in their order, whatever the numbers are.
func TestErrors(t *testing.T) {
	bad := chapter(1, 3, 2, 3, 3, 4)
	for _, f := range []api.Floors{chapter(), bad, fullBills(), {}} {
		for _, n := range ints(0, 3, -1, 9999, 10000, huge, low) {
			expect(t, f, given{number: n}, api.ErrNone, "Shares", "Strike")
		}
	}
	for _, f := range []api.Floors{chapter(), bad} {
		expect(t, f, given{number: 1}, api.OK, "Shares", "Strike")
		expect(t, f, given{number: 2}, api.OK, "Shares", "Strike")
		for _, l := range [][]int{{0}, {5}, {-1}, {huge}, {low}, {1, 1}, {2, 1}, {1, 2, 3, 4, 5}, {0, 1, 2, 3, 4}, {1, 3, 2}, {1, 2, 2, 3}, {1, 2, 3, 4, 4}, slices.Repeat(ints(1), 1<<20)} {
			expect(t, f, given{some: l}, api.ErrNone, "Alone")
		}
		for _, l := range [][]int{nil, {}, {1}, {4}, {1, 4}, {2, 3}, {1, 2, 3, 4}} {
			expect(t, f, given{some: l}, api.OK, "Alone")
		}
	}
	expect(t, chapter(), given{}, api.OK, settling()...)
	expect(t, bad, given{}, api.ErrBad, settling()...)
	expect(t, bad, given{}, api.OK, "Check", "Net", "Can", "Judge")
	expect(t, api.Floors{}, given{}, api.OK, "Check", "Net", "Can", "Alone", "Judge")
	expect(t, api.Floors{}, given{}, api.OK, settling()...)
	expect(t, api.Floors{}, given{some: ints(1)}, api.ErrNone, "Alone")
}

// P8.2, P8.9: the chapter's examples, pence that are left, and the greatest numbers.
func TestShares(t *testing.T) {
	six := ints(1, 2, 3, 4, 5, 6)
	for i, x := range []struct {
		ids    []int
		b      api.Bill
		shares []int
		net    []int
	}{
		{ints(1, 2, 3, 4), bill(1, 1, 100, 1, 1, 2, 1, 3, 1), ints(34, 33, 33, 0), ints(66, -33, -33, 0)}, {ints(1, 2, 3, 4), bill(2, 2, 60, 3, 1, 4, 2), ints(0, 0, 20, 40), ints(0, 60, -20, -40)},
		// One who pays for itself, for others, and for one with all of the parts.
		{ints(7), bill(1, 7, 5, 7, 9), ints(5), ints(0)}, {ints(7, 8), bill(1, 7, 5, 8, 9), ints(0, 5), ints(5, -5)}, {ints(7, 8), bill(1, 8, 1, 7, 1, 8, 1), ints(1, 0), ints(-1, 1)}, {ints(7, 8), bill(1, 8, 1, 7, 1, 8, 9), ints(1, 0), ints(-1, 1)}, {ints(7, 8), bill(1, 7, 9, 7, 1, 8, 9), ints(1, 8), ints(8, -8)},
		// What is left goes to the least Ids, not to those with the most parts, nor to those without a stake.
		{six, bill(1, 6, 5, 1, 1, 2, 1, 3, 1, 4, 1, 5, 1, 6, 1), ints(1, 1, 1, 1, 1, 0), ints(-1, -1, -1, -1, -1, 5)}, {six, bill(1, 6, 2, 2, 1, 4, 1, 6, 1), ints(0, 1, 0, 1, 0, 0), ints(0, -1, 0, -1, 0, 2)}, {six, bill(1, 3, 11, 2, 2, 4, 9, 5, 1), ints(0, 2, 0, 9, 0, 0), ints(0, -2, 11, -9, 0, 0)}, {six, bill(1, 1, 7, 3, 5, 5, 5, 6, 4), ints(0, 0, 3, 0, 2, 2), ints(7, 0, -3, 0, -2, -2)},
		{six, bill(1, 1, 1000000, 1, 9, 2, 9, 3, 9, 4, 9, 5, 9, 6, 9), ints(166667, 166667, 166667, 166667, 166666, 166666), ints(833333, -166667, -166667, -166667, -166666, -166666)}, {six, bill(1, 1, 1000000, 5, 1, 6, 9), ints(0, 0, 0, 0, 100000, 900000), ints(1000000, 0, 0, 0, -100000, -900000)},
	} {
		f := api.Floors{Ids: x.ids, Bills: bills(x.b)}
		l, e := floor.Shares(f, x.b.Number)
		n, g := floor.Net(f)
		if !slices.Equal(l, x.shares) || e != api.OK || !slices.Equal(n, x.net) || g != api.OK {
			t.Error(i, l, e, n, g)
		}
	}
	for number, want := range map[int][]int{1: ints(34, 33, 33, 0), 2: ints(0, 0, 20, 40)} {
		if l, e := floor.Shares(chapter(1, 2), number); !slices.Equal(l, want) || e != api.OK {
			t.Error(number, l, e)
		}
	}
}

// P8.2: bills and payments together, payments either way, and the greatest numbers.
func TestNet(t *testing.T) {
	after := chapter()
	after.Paid = pays(pay(3, 1, 53))
	most := api.Floors{Ids: ints(1, 2), Paid: times(12, pay(1, 2, api.MaxPence))}
	for n := 1; n <= 10; n++ {
		most.Bills = append(most.Bills, bill(n, 1, api.MaxPence, 2, 1))
	}
	for i, x := range []struct {
		f    api.Floors
		want []int
	}{
		{chapter(), ints(66, 27, -53, -40)}, {chapter(1, 2, 3, 4), ints(66, 27, -53, -40)}, {after, ints(13, 27, 0, -40)}, {api.Floors{}, nil}, {api.Floors{Ids: ints(4, 9)}, ints(0, 0)}, {most, ints(22000000, -22000000)}, {owed(ints(1, 2, 3), 5, -2), ints(5, -2, -3)}, {owed(ints(1, 2, 3), -5, 5), ints(-5, 5, 0)},
		{api.Floors{Ids: ints(1, 2, 3), Paid: pays(pay(2, 3, 4), pay(3, 2, 1), pay(2, 3, 4), pay(1, 2, 10))}, ints(10, -3, -7)}, {api.Floors{Ids: ints(1, 2), Quarrels: quarrels(1, 2), Paid: pays(pay(2, 1, 4))}, ints(-4, 4)},
	} {
		if l, e := floor.Net(x.f); !slices.Equal(l, x.want) || e != api.OK {
			t.Error(i, l, e)
		}
	}
}

// lists is what is told of the lists of the fewest.
type lists struct {
	best            []api.Payment
	cheapest, count int
	sure            []api.Payment
	groups          [][]int
}

// checkTold checks all that is told of lists that settle.
func checkTold(t *testing.T, i int, f api.Floors, x lists) {
	t.Helper()
	can, a := floor.Can(f)
	n, b := floor.Fewest(f)
	l, c := floor.Settle(f)
	k, d := floor.Cheapest(f)
	m, e := floor.Count(f)
	s, g := floor.Sure(f)
	p, h := floor.Groups(f)
	if !slices.Equal([]api.Errno{a, b, c, d, e, g, h}, make([]api.Errno, 7)) {
		t.Error(i, a, b, c, d, e, g, h)
	}
	if !can || n != len(x.best) || !slices.Equal(l, x.best) || k != x.cheapest || m != x.count || !slices.Equal(s, x.sure) || !slices.EqualFunc(p, x.groups, slices.Equal[[]int]) {
		t.Error(i, can, n, l, k, m, s, p)
	}
}

// P8.3, P8.4: the chapter's examples.
func TestChapter(t *testing.T) {
	all := [][]int{{1, 2, 3, 4}}
	after := chapter()
	after.Paid = pays(pay(3, 1, 53))
	checkTold(t, 0, chapter(), lists{pays(pay(3, 1, 26), pay(3, 2, 27), pay(4, 1, 40)), 93, 16, nil, all})
	checkTold(t, 1, chapter(1, 3), lists{pays(pay(2, 1, 26), pay(3, 2, 53), pay(4, 1, 40)), 119, 8, nil, all})
	checkTold(t, 2, after, lists{pays(pay(4, 1, 13), pay(4, 2, 27)), 40, 3, nil, [][]int{{1, 2, 4}, {3}}})
	if can, e := floor.Can(chapter(1, 3, 2, 3, 3, 4)); can || e != api.OK {
		t.Error(can, e)
	}
}

// P8.3, P8.4: floors that pass on, groups that can be chosen in several ways, floors that speak with few, and none at all.
func TestSettle(t *testing.T) {
	two, three, four, five, six := ints(1, 2), ints(1, 2, 3), ints(1, 2, 3, 4), ints(1, 2, 3, 4, 5), ints(1, 2, 3, 4, 5, 6)
	for i, x := range []struct {
		f api.Floors
		lists
	}{
		{api.Floors{}, lists{nil, 0, 1, nil, nil}}, {owed(ints(9999)), lists{nil, 0, 1, nil, [][]int{{9999}}}}, {owed(six, 0, 0, 0, 0, 0), lists{nil, 0, 1, nil, [][]int{{1}, {2}, {3}, {4}, {5}, {6}}}}, {with(owed(two, 0), 1, 2), lists{nil, 0, 1, nil, [][]int{{1}, {2}}}},
		{owed(two, 5), lists{pays(pay(2, 1, 5)), 5, 1, pays(pay(2, 1, 5)), [][]int{{1, 2}}}}, {owed(two, -5), lists{pays(pay(1, 2, 5)), 5, 1, pays(pay(1, 2, 5)), [][]int{{1, 2}}}}, {owed(ints(3, 9999), 1), lists{pays(pay(9999, 3, 1)), 1, 1, pays(pay(9999, 3, 1)), [][]int{{3, 9999}}}},
		// Who owes nothing pays nothing, unless it must pass on.
		{owed(three, 5, 0), lists{pays(pay(3, 1, 5)), 5, 1, pays(pay(3, 1, 5)), [][]int{{1, 3}, {2}}}}, {with(owed(three, 5, 0), 1, 3), lists{pays(pay(2, 1, 5), pay(3, 2, 5)), 10, 1, pays(pay(2, 1, 5), pay(3, 2, 5)), [][]int{{1, 2, 3}}}}, {with(owed(five, 3, 0, 0, 0), 1, 2, 1, 3, 1, 5), lists{pays(pay(4, 1, 3), pay(5, 4, 3)), 6, 1, pays(pay(4, 1, 3), pay(5, 4, 3)), [][]int{{1, 4, 5}, {2}, {3}}}}, {with(owed(four, 3, 0, 0), 1, 4), lists{pays(pay(2, 1, 3), pay(4, 2, 3)), 6, 2, nil, [][]int{{1, 2, 4}, {3}}}},
		{with(owed(four, -2, 0, 0), 1, 3, 1, 4, 2, 4), lists{pays(pay(1, 2, 2), pay(2, 3, 2), pay(3, 4, 2)), 6, 1, pays(pay(1, 2, 2), pay(2, 3, 2), pay(3, 4, 2)), [][]int{{1, 2, 3, 4}}}},
		// Pairs that can be chosen in several ways, the one of which is ruled out by a quarrel.
		{owed(four, 5, -5, 5), lists{pays(pay(2, 1, 5), pay(4, 3, 5)), 10, 2, nil, [][]int{{1, 2}, {3, 4}}}}, {with(owed(four, 5, -5, 5), 1, 2), lists{pays(pay(2, 3, 5), pay(4, 1, 5)), 10, 1, pays(pay(2, 3, 5), pay(4, 1, 5)), [][]int{{1, 4}, {2, 3}}}}, {owed(six, 1, -1, 1, -1, 1), lists{pays(pay(2, 1, 1), pay(4, 3, 1), pay(6, 5, 1)), 3, 6, nil, [][]int{{1, 2}, {3, 4}, {5, 6}}}},
		{owed(five, 7, -3, -4, 2), lists{pays(pay(2, 1, 3), pay(3, 1, 4), pay(5, 4, 2)), 9, 3, pays(pay(5, 4, 2)), [][]int{{1, 2, 3}, {4, 5}}}},
		// Fewer payments with more pence, and more payments with fewer.
		{with(owed(four, 6, -6, 4), 1, 2, 3, 4), lists{pays(pay(2, 3, 4), pay(2, 4, 2), pay(4, 1, 6)), 12, 4, nil, [][]int{{1, 2, 3, 4}}}}, {with(owed(five, 3, -2, -1, 4), 1, 2), lists{pays(pay(2, 3, 2), pay(3, 1, 3), pay(5, 4, 4)), 7, 1, pays(pay(2, 3, 2), pay(3, 1, 3), pay(5, 4, 4)), [][]int{{1, 2, 3}, {4, 5}}}}, {with(owed(five, 10, 10, -10, -9), 1, 3, 1, 5), lists{pays(pay(3, 2, 10), pay(4, 1, 10), pay(5, 4, 1)), 21, 1, pays(pay(3, 2, 10), pay(4, 1, 10), pay(5, 4, 1)), [][]int{{1, 4, 5}, {2, 3}}}},
		{with(owed(five, 2, -2, 5, 0), 1, 2), lists{pays(pay(2, 3, 2), pay(5, 1, 2), pay(5, 3, 3)), 7, 9, nil, [][]int{{1, 2, 3, 5}, {4}}}},
		// Any tree between all of them.
		{owed(six, 1, 2, 4, 8, 16), lists{pays(pay(6, 1, 1), pay(6, 2, 2), pay(6, 3, 4), pay(6, 4, 8), pay(6, 5, 16)), 31, 1296, nil, [][]int{{1, 2, 3, 4, 5, 6}}}}, {with(owed(six, 1, 2, 4, 8, 16), 1, 6, 2, 6, 3, 6, 4, 6), lists{pays(pay(5, 1, 1), pay(5, 2, 2), pay(5, 3, 4), pay(5, 4, 8), pay(6, 5, 31)), 46, 125, pays(pay(6, 5, 31)), [][]int{{1, 2, 3, 4, 5, 6}}}},
		// More than MaxPence in one payment.
		{api.Floors{Ids: two, Paid: times(12, pay(1, 2, api.MaxPence))}, lists{pays(pay(2, 1, 12000000)), 12000000, 1, pays(pay(2, 1, 12000000)), [][]int{{1, 2}}}},
	} {
		checkTold(t, i, x.f, x.lists)
	}
	for i, f := range []api.Floors{with(owed(two, 5), 1, 2), with(owed(three, 5, 0), 1, 2, 1, 3), with(owed(four, 5, 5, -5), 1, 3, 1, 4, 2, 3, 2, 4), with(owed(four, 1, -1, 2), 1, 2, 1, 4, 2, 3, 3, 4)} {
		if can, e := floor.Can(f); can || e != api.OK {
			t.Error(i, can, e)
		}
		expect(t, f, given{}, api.ErrBad, settling()...)
	}
}

// P8.5, P8.15: floors that are alone, by payments between them only.
func TestAlone(t *testing.T) {
	three, four, six := ints(1, 2, 3), ints(1, 2, 3, 4), ints(1, 2, 3, 4, 5, 6)
	for i, x := range []struct {
		f    api.Floors
		some []int
		want bool
	}{
		{chapter(), ints(1, 3), false}, {chapter(), four, true}, {chapter(), nil, true}, {chapter(), ints(1), false}, {chapter(), ints(1, 2, 3), false}, {chapter(1, 3, 2, 3, 3, 4), four, false}, {chapter(1, 3, 2, 3, 3, 4), nil, true}, {api.Floors{}, nil, true},
		{owed(three, 5, 0), ints(2), true}, {owed(three, 5, 0), ints(1, 3), true}, {owed(three, 5, 0), ints(1, 2), false}, {owed(three, 5, 0), three, true},
		// Who is not among them cannot pass on.
		{with(owed(three, 5, 0), 1, 3), ints(1, 3), false}, {with(owed(three, 5, 0), 1, 3), three, true}, {with(owed(four, 5, 0, -5), 1, 3, 2, 3), ints(1, 2, 3), false}, {with(owed(four, 5, 0, -5), 1, 3, 2, 3), ints(1, 3, 4), true},
		// They need not be one group, nor speak where nothing is to be paid.
		{with(owed(three, 0, 0), 1, 2, 1, 3, 2, 3), three, true}, {with(owed(six, 1, -1, 2, -2, 0), 1, 3, 1, 4, 2, 3, 2, 4), four, true}, {with(owed(six, 1, -1, 2, -2, 0), 1, 2), four, true}, {with(owed(six, 1, -1, 2, -2, 0), 1, 2), ints(1, 2), false}, {with(owed(six, 1, -1, 2, -2, 0), 1, 2), ints(3, 4, 5, 6), true}, {with(owed(six, 1, -1, 2, -2, 0), 1, 2, 1, 3, 1, 4), four, false},
	} {
		if is, e := floor.Alone(x.f, x.some); is != x.want || e != api.OK {
			t.Error(i, is, e)
		}
	}
}

// P8.6: the chapter's example, payments in any order, and the first one that cannot be.
func TestJudge(t *testing.T) {
	one := pay(4, 1, 1)
	for i, x := range []struct {
		f    api.Floors
		l    []api.Payment
		left []int
		at   int
		e    api.Errno
	}{
		{chapter(), pays(pay(3, 1, 53)), ints(13, 27, 0, -40), 0, api.OK}, {chapter(), nil, ints(66, 27, -53, -40), 0, api.OK}, {chapter(), pays(pay(3, 1, 26), pay(3, 2, 27), pay(4, 1, 40)), ints(0, 0, 0, 0), 0, api.OK}, {chapter(), pays(pay(4, 1, 20), pay(3, 2, 1), pay(4, 1, 20)), ints(26, 26, -52, 0), 0, api.OK}, {chapter(), pays(pay(1, 4, 20), pay(4, 1, 30)), ints(56, 27, -53, -30), 0, api.OK},
		{chapter(), pays(pay(4, 1, 1000000)), ints(66-1000000, 27, -53, 1000000-40), 0, api.OK}, {chapter(), times(12, pay(4, 1, 1000000)), ints(66-12000000, 27, -53, 12000000-40), 0, api.OK}, {fullPaid(), times(12, one), ints(66, 15, -53, -28), 0, api.OK}, {api.Floors{}, nil, nil, 0, api.OK},
		{chapter(), times(13, one), nil, 0, api.ErrFull}, {chapter(), times(13, pay(0, 0, 0)), nil, 0, api.ErrFull}, {api.Floors{}, times(13, one), nil, 0, api.ErrFull}, {api.Floors{}, times(1, one), nil, 0, api.ErrPay}, {chapter(), times(1<<20, one), nil, 0, api.ErrFull},
		{chapter(1, 3), pays(one, pay(3, 1, 53)), nil, 1, api.ErrPay}, {chapter(1, 3), pays(one, pay(1, 3, 53)), nil, 1, api.ErrPay}, {chapter(1, 3), pays(pay(1, 3, 1), pay(3, 1, 0)), nil, 0, api.ErrPay}, {chapter(1, 3), pays(pay(2, 3, 1), pay(1, 2, 1), pay(1, 4, 1)), ints(68, 27, -54, -41), 0, api.OK}, {chapter(), append(times(11, one), pay(4, 4, 1)), nil, 11, api.ErrPay},
		// Those who do not speak can have paid before.
		{api.Floors{Ids: ints(1, 2), Quarrels: quarrels(1, 2), Paid: pays(pay(1, 2, 3))}, nil, ints(3, -3), 0, api.OK},
	} {
		if l, at, e := floor.Judge(x.f, x.l); !slices.Equal(l, x.left) || at != x.at || e != x.e {
			t.Error(i, l, at, e)
		}
	}
	for i, x := range badPayments() {
		if l, at, e := floor.Judge(chapter(), pays(one, one, x, pay(0, 0, 0))); len(l) > 0 || at != 2 || e != api.ErrPay {
			t.Error(i, x, l, at, e)
		}
	}
}

// badPayments is payments of which one number is wrong.
func badPayments() (l []api.Payment) {
	for _, n := range ints(0, -1, 5, 4, huge, low) {
		l = append(l, pay(n, 4, 1), pay(4, n, 1))
	}
	for _, n := range ints(0, -1, 1000001, huge, low) {
		l = append(l, pay(3, 1, n))
	}
	return l
}
