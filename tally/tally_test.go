package tally_test

import (
	"slices"
	"testing"

	"aguador/api"
	"aguador/tally"
)

// badNumbers are kinds that are none.
func badNumbers() []int { return ints(0, 5, 6, -1, low, huge) }

// P7.1: what is valid, up to each limit and beyond it.
func TestCheck(t *testing.T) {
	bad := api.ErrTally
	for i, x := range []struct {
		x api.Tally
		e api.Errno
	}{
		{chapter(), api.OK}, {cut(nil, nil), api.OK}, {cut(ints(), ints()), api.OK}, {cut(ints(1, 2, 3, 4), nil), api.OK}, {cut(nil, ints(4, 3, 2, 1)), api.OK}, {cut(row(12, 4), row(12, 1)), api.OK}, {cut(row(13, 4), row(12, 1)), bad}, {cut(row(12, 4), row(13, 1)), bad}, {cut(row(13, 1), nil), bad}, {cut(nil, row(13, 1)), bad}, {odd(), bad},
		{api.Tally{}, bad}, {api.Tally{Id: 1, House: 1}, api.OK}, {api.Tally{Id: 9999, House: 9999}, api.OK}, {api.Tally{Id: 10000, House: 1}, bad}, {api.Tally{Id: 1, House: 10000}, bad}, {api.Tally{Id: 1}, bad}, {api.Tally{House: 1}, bad}, {api.Tally{Id: -1, House: 1}, bad}, {api.Tally{Id: 1, House: -1}, bad}, {api.Tally{Id: huge, House: 1}, bad}, {api.Tally{Id: 1, House: huge}, bad}, {api.Tally{Id: low, House: 1}, bad}, {api.Tally{Id: 1, House: low}, bad},
	} {
		checkAll(t, i, x.x, x.e)
	}
	for i, n := range badNumbers() {
		for at := range 3 {
			l := ints(1, 2, 3)
			l[at] = n
			checkAll(t, i, cut(l, ints(1)), bad)
			checkAll(t, i, cut(nil, l), bad)
		}
	}
}

// checkAll checks that a tally is valid, or that each call says that it is not, whatever else is wrong.
func checkAll(t *testing.T, i int, x api.Tally, e api.Errno) {
	t.Helper()
	if f := tally.Check(x); f != e {
		t.Error(i, x, f)
	}
	if e == api.OK {
		return
	}
	for _, c := range calls(given{kind: 9, at: -1, foil: -1, list: ints(0), rates: api.Rates{Skin: -1}}) {
		for _, l := range [][]api.Tally{tallies(x, chapter()), tallies(x, x)} {
			if z := c.run(l); z.e != e || !z.isZero() {
				t.Error(i, c.name, z)
			}
		}
	}
	// The one that is not valid is not the first one.
	l := append(slices.Repeat(tallies(chapter()), 5), x)
	expect(t, l, given{house: 5, rates: api.Rates{Paid: 1001}}, e, listCalls()...)
	expect(t, tallies(cut(row(12, 1), nil), x), given{}, e, "Join")
}

// P7.1, R1, R5: errors in their order, whatever the numbers are.
func TestErrors(t *testing.T) {
	full := cut(row(12, 1), row(12, 2))
	for _, n := range badNumbers() {
		for _, x := range tallies(chapter(), full, cut(nil, nil)) {
			expect(t, tallies(x), given{kind: n}, api.ErrNotch, "Kinds", "Notch")
		}
	}
	for kind := 1; kind <= 4; kind++ {
		expect(t, tallies(chapter()), given{kind: kind}, api.OK, "Kinds", "Notch")
		expect(t, tallies(full), given{kind: kind}, api.OK, "Kinds")
		expect(t, tallies(full), given{kind: kind}, api.ErrFull, "Notch")
	}
	for _, n := range ints(-1, 5, 13, low, huge) {
		expect(t, tallies(chapter()), given{at: n}, api.ErrCut, "Where", "Split")
		expect(t, tallies(chapter()), given{foil: n}, api.ErrCut, "Split")
		expect(t, tallies(chapter()), given{foil: n}, api.OK, "Where")
	}
	long := cut(ints(1, 1), ints(2, 2, 2))
	expect(t, tallies(long), given{at: 2, foil: 3}, api.OK, "Where", "Split")
	expect(t, tallies(long), given{at: 3, foil: 3}, api.ErrCut, "Where", "Split")
	expect(t, tallies(long), given{at: 2, foil: 4}, api.ErrCut, "Split")
	expect(t, tallies(cut(nil, nil)), given{}, api.OK, "Where", "Split")
	expect(t, tallies(cut(nil, ints(1))), given{at: 1}, api.ErrCut, "Where", "Split")
	expect(t, tallies(cut(ints(1), nil)), given{foil: 1}, api.ErrCut, "Split")
}

// P7.1: rates, each one up to its limits, also if no tally needs them.
func TestRates(t *testing.T) {
	for _, n := range ints(0, 1, 1000, -1, 1001, low, huge) {
		e := api.OK
		if n < 0 || n > 1000 {
			e = api.ErrRates
		}
		for i, r := range []api.Rates{{Skin: n}, {Half: n}, {Barrel: n}, {Paid: n}, {Skin: 1000, Half: 1000, Barrel: 1000, Paid: n}} {
			_, f := tally.Owed(cut(nil, nil), r)
			_, g := tally.Owes(nil, 5, r)
			_, h := tally.Owes(tallies(chapter()), 7, r)
			if f != e || g != e || h != e {
				t.Error(i, n, f, g, h)
			}
		}
	}
}

// P7.1: lists of tallies, as long as they can be, and longer.
func TestMany(t *testing.T) {
	bad := given{house: 5, rates: api.Rates{Skin: -1}}
	good := given{house: 5, rates: rates()}
	expect(t, slices.Repeat(tallies(chapter()), 6), good, api.OK, listCalls()...)
	expect(t, slices.Repeat(tallies(chapter()), 7), good, api.ErrArg, listCalls()...)
	expect(t, slices.Repeat(tallies(odd()), 7), bad, api.ErrArg, listCalls()...)
	expect(t, slices.Repeat(tallies(odd()), 6), bad, api.ErrTally, listCalls()...)
	expect(t, slices.Repeat(tallies(chapter()), 6), bad, api.ErrRates, "Owes")
	expect(t, nil, good, api.OK, listCalls()...)
	expect(t, tallies(), good, api.OK, listCalls()...)
}

// P7.2: the chapter's example, and the order in which edits are chosen.
func TestFalseAndEdits(t *testing.T) {
	var turns, cuts, adds []api.Edit
	for at := range 12 {
		turns = append(turns, turn(at, 2))
		cuts = append(cuts, off(0))
		adds = append(adds, add(at, 3))
	}
	for i, x := range []struct {
		x     api.Tally
		edits []api.Edit
	}{
		{chapter(), []api.Edit{turn(1, 2), turn(2, 3)}}, {cut(nil, nil), nil}, {cut(ints(1), ints(1)), nil}, {cut(row(12, 4), row(12, 4)), nil}, {cut(row(12, 1), row(12, 2)), turns}, {cut(row(12, 1), nil), cuts}, {cut(nil, row(12, 3)), adds},
		{cut(ints(1), ints(2)), []api.Edit{turn(0, 2)}}, {cut(ints(1), nil), []api.Edit{off(0)}}, {cut(nil, ints(4)), []api.Edit{add(0, 4)}},
		// What agrees stays, so that the last ones of a row are cut off, or added.
		{cut(row(3, 1), ints(1)), []api.Edit{off(1), off(1)}}, {cut(ints(1), row(3, 1)), []api.Edit{add(1, 1), add(2, 1)}}, {cut(ints(1, 1, 2), ints(1, 2)), []api.Edit{off(1)}}, {cut(ints(1, 2), ints(1, 1, 2)), []api.Edit{add(1, 1)}},
		// It is turned first, and cut off, or added, behind.
		{cut(ints(1, 2), ints(3)), []api.Edit{turn(0, 3), off(1)}}, {cut(ints(3), ints(1, 2)), []api.Edit{turn(0, 1), add(1, 2)}}, {cut(ints(1, 2), ints(2, 1)), []api.Edit{turn(0, 2), turn(1, 1)}}, {cut(ints(1, 2), ints(2)), []api.Edit{off(0)}}, {cut(ints(2), ints(1, 2)), []api.Edit{add(0, 1)}},
		// If turning takes more it is cut off, rather than something added.
		{cut(ints(1, 2, 3), ints(2, 3, 1)), []api.Edit{off(0), add(2, 1)}}, {cut(ints(1, 2, 3, 1), ints(2, 3, 1, 2)), []api.Edit{off(0), add(3, 2)}}, {cut(ints(2, 3, 1), ints(1, 2, 3)), []api.Edit{add(0, 1), off(3)}},
		// Something is added first where cutting off takes more.
		{cut(ints(3, 3), ints(1, 2, 3, 4)), []api.Edit{turn(0, 1), add(1, 2), add(3, 4)}}, {cut(ints(2, 3, 4), ints(1, 2, 3, 4, 1)), []api.Edit{add(0, 1), add(4, 1)}},
	} {
		n, e := tally.False(x.x)
		l, f := tally.Edits(x.x)
		if n != len(x.edits) || e != api.OK || !slices.Equal(l, x.edits) || f != api.OK {
			t.Error(i, n, e, l, f)
		}
	}
}

// P7.3: the chapter's examples, kinds that are none, and lists that are too long.
func TestIs(t *testing.T) {
	other := cut(row(12, 1), row(12, 2))
	longest := cut(ints(1, 2, 1, 2, 1, 2, 1, 2, 1, 2, 1, 2), ints(2, 1, 2, 1, 2, 1, 2, 1, 2, 1, 2, 1))
	for i, x := range []struct {
		x  api.Tally
		l  []int
		is bool
	}{
		{chapter(), ints(1, 2, 2, 4), true}, {chapter(), ints(1, 1, 2, 3, 4), true}, {chapter(), ints(1, 4), false}, {chapter(), ints(1, 2, 4), true}, {chapter(), ints(1, 3, 4), false}, {chapter(), ints(1, 1, 2, 4), true}, {chapter(), ints(1, 2, 3, 4), true}, {chapter(), ints(1, 2, 3, 4, 4), false}, {chapter(), nil, false}, {chapter(), ints(4), false},
		{chapter(), ints(1, 2, 0, 4), false}, {chapter(), ints(0, 1, 2, 4), false}, {chapter(), ints(1, 2, 4, 0), false}, {chapter(), ints(1, 2, 4, 5), false}, {chapter(), ints(1, 2, -1, 4), false}, {chapter(), ints(low), false}, {chapter(), ints(1, 2, 4, huge), false}, {chapter(), row(1<<20, 1), false}, {chapter(), row(1<<20, 0), false},
		{cut(nil, nil), nil, true}, {cut(nil, nil), ints(), true}, {cut(nil, nil), ints(1), false}, {cut(nil, nil), ints(0), false}, {cut(ints(1), nil), nil, true}, {cut(ints(1), nil), ints(1), true}, {cut(ints(1), nil), ints(0), false}, {cut(ints(1), nil), ints(0, 1), false}, {cut(nil, ints(1)), ints(1, 0), false}, {cut(ints(1), nil), ints(2), false}, {cut(ints(1), nil), ints(1, 1), false},
		{cut(ints(1), ints(2)), ints(1), true}, {cut(ints(1), ints(2)), ints(2), true}, {cut(ints(1), ints(2)), ints(3), false}, {cut(ints(1), ints(2)), ints(1, 2), false}, {cut(ints(1), ints(2)), nil, false}, {cut(ints(1, 2), ints(2, 1)), ints(1, 2, 1), true}, {cut(ints(1, 2), ints(2, 1)), ints(2), true},
		{cut(row(12, 1), nil), nil, true}, {cut(row(12, 1), nil), row(12, 1), true}, {cut(row(12, 1), nil), row(13, 1), false}, {other, row(12, 1), true}, {other, slices.Concat(row(5, 2), row(7, 1)), true}, {other, row(11, 1), false}, {other, row(13, 1), false}, {other, append(row(11, 1), 3), false},
		// A true list can have more notches than both halves.
		{longest, ints(1, 2, 1, 2, 1, 2, 1, 2, 1, 2, 1, 2, 1), true}, {longest, ints(2, 1, 2, 1, 2, 1, 2, 1, 2, 1, 2, 1, 2), true}, {longest, ints(1, 2, 1, 2, 1, 2, 1, 2, 1, 2, 1, 2, 1, 2), false},
	} {
		if is, e := tally.Is(x.x, x.l); is != x.is || e != api.OK {
			t.Error(i, is, e)
		}
	}
}

// P7.3: the chapter's example, lists in order, and as many as can be, and more.
func TestFirstAndLists(t *testing.T) {
	for i, x := range []struct {
		x     api.Tally
		lists [][]int
	}{
		{chapter(), [][]int{{1, 1, 2, 3, 4}, {1, 1, 2, 4}, {1, 1, 3, 4}, {1, 2, 2, 4}, {1, 2, 3, 4}, {1, 2, 4}}}, {cut(nil, nil), [][]int{nil}}, {cut(row(12, 3), row(12, 3)), [][]int{row(12, 3)}}, {cut(ints(1), nil), [][]int{nil, {1}}}, {cut(nil, ints(4)), [][]int{nil, {4}}}, {cut(ints(3), ints(2)), [][]int{{2}, {3}}}, {cut(ints(1, 1, 1), ints(1)), [][]int{{1}, {1, 1}, {1, 1, 1}}},
		{cut(ints(1, 2), nil), [][]int{nil, {1}, {1, 2}, {2}}}, {cut(ints(1, 2), ints(2, 1)), [][]int{{1}, {1, 1}, {1, 2}, {1, 2, 1}, {2}, {2, 1}, {2, 1, 2}, {2, 2}}}, {cut(ints(1), ints(2, 3)), [][]int{{1}, {1, 3}, {2}, {2, 1}, {2, 3}, {3}}},
	} {
		l, e := tally.Lists(x.x)
		first, f := tally.First(x.x)
		if !sameLists(l, x.lists) || e != api.OK || !slices.Equal(first, x.lists[0]) || f != api.OK {
			t.Error(i, l, e, first, f)
		}
	}
	// Of ten notches that are turned there are more lists than can be told.
	expect(t, tallies(cut(row(10, 2), row(10, 1))), given{}, api.ErrMany, "Lists")
	if l, e := tally.First(cut(row(10, 2), row(10, 1))); !slices.Equal(l, row(10, 1)) || e != api.OK {
		t.Error(l, e)
	}
}

// P7.3: just as many lists as can be told, one less, and one more.
func TestMaxLists(t *testing.T) {
	for i, x := range []struct {
		x    api.Tally
		many int
	}{
		{cut(ints(2, 3, 3, 1, 2, 1), ints(4, 4)), 199}, {cut(ints(4, 4, 1), ints(1, 3, 3, 3, 2, 2)), 200}, {cut(ints(3, 2), ints(4, 1, 1, 1, 4, 3)), 200}, {cut(ints(3, 3, 2, 4, 2, 3), ints(3, 4, 4, 3, 4, 1)), 201}, {cut(ints(1, 1, 1), ints(4, 3, 4, 1, 3, 4, 4)), 201},
	} {
		all := firstLists(x.x, api.MaxLists+2)
		if len(all) != x.many {
			t.Fatal(i, len(all))
		}
		want := told{lists: all}
		if x.many > api.MaxLists {
			want = told{e: api.ErrMany}
		}
		if l, e := tally.Lists(x.x); !want.equal(told{e: e, lists: l}) {
			t.Error(i, l, e)
		}
	}
}

// P7.4: the chapter's examples, and rates as great as they can be.
func TestKindsAndOwed(t *testing.T) {
	zero := span(0, 0)
	most := api.Rates{Skin: 1000, Half: 1000, Barrel: 1000, Paid: 1000}
	for i, x := range []struct {
		x     api.Tally
		kinds [4]api.Span
		r     api.Rates
		owed  api.Span
	}{
		{chapter(), [4]api.Span{span(1, 2), span(0, 2), span(0, 1), span(1, 1)}, rates(), span(-1, 45)}, {chapter(), [4]api.Span{span(1, 2), span(0, 2), span(0, 1), span(1, 1)}, most, span(1000, 3000)}, {chapter(), [4]api.Span{span(1, 2), span(0, 2), span(0, 1), span(1, 1)}, api.Rates{}, zero},
		{cut(nil, nil), [4]api.Span{}, most, zero}, {cut(ints(1), nil), [4]api.Span{span(0, 1)}, rates(), span(0, 6)}, {cut(nil, ints(4)), [4]api.Span{3: span(0, 1)}, rates(), span(-10, 0)}, {cut(ints(3), ints(2)), [4]api.Span{1: span(0, 1), 2: span(0, 1)}, rates(), span(3, 40)}, {cut(ints(4, 4), ints(3)), [4]api.Span{2: span(0, 1), 3: span(0, 2)}, rates(), span(-20, 40)},
		{cut(row(12, 1), row(12, 1)), [4]api.Span{span(12, 12)}, most, span(12000, 12000)}, {cut(row(12, 4), row(12, 4)), [4]api.Span{3: span(12, 12)}, most, span(-12000, -12000)}, {cut(row(12, 4), row(12, 3)), [4]api.Span{2: span(0, 12), 3: span(0, 12)}, most, span(-12000, 12000)}, {cut(row(12, 2), nil), [4]api.Span{1: span(0, 12)}, rates(), span(0, 36)}, {cut(row(12, 2), row(5, 2)), [4]api.Span{1: span(5, 12)}, rates(), span(15, 36)},
		// What is least is not what both halves come to.
		{cut(ints(1, 2), ints(2, 1)), [4]api.Span{span(0, 2), span(0, 2)}, api.Rates{Skin: 10, Half: 1}, span(1, 21)}, {cut(ints(1, 4), ints(4, 1)), [4]api.Span{span(0, 2), 3: span(0, 2)}, api.Rates{Skin: 10, Paid: 1}, span(-2, 20)},
	} {
		for kind := 1; kind <= 4; kind++ {
			if s, e := tally.Kinds(x.x, kind); s != x.kinds[kind-1] || e != api.OK {
				t.Error(i, kind, s, e)
			}
		}
		if s, e := tally.Owed(x.x, x.r); s != x.owed || e != api.OK {
			t.Error(i, s, e)
		}
	}
}

// P7.4, P7.14: tallies of one house among others, also of the same Id.
func TestOwes(t *testing.T) {
	one, two := of(6, cut(ints(1), ints(1))), of(6, cut(ints(4), ints(3)))
	for i, x := range []struct {
		l     []api.Tally
		house int
		want  api.Span
	}{
		{nil, 5, span(0, 0)}, {tallies(chapter()), 5, span(-1, 45)}, {tallies(chapter(), chapter()), 5, span(-2, 90)}, {tallies(chapter(), one, two), 5, span(-1, 45)}, {tallies(chapter(), one, two), 6, span(-4, 46)}, {tallies(one, chapter(), two, one), 6, span(2, 52)}, {tallies(one, chapter(), two), 1, span(0, 0)}, {tallies(one, chapter(), two), 0, span(0, 0)}, {tallies(one), -6, span(0, 0)}, {tallies(one), low, span(0, 0)}, {tallies(one), huge, span(0, 0)}, {tallies(of(9999, one)), 9999, span(6, 6)}, {slices.Repeat(tallies(cut(row(12, 3), row(12, 4))), 6), 5, span(-720, 2880)},
	} {
		if s, e := tally.Owes(x.l, x.house, rates()); s != x.want || e != api.OK {
			t.Error(i, s, e)
		}
	}
}

// P7.6, P7.11: the chapter's example, the least of several indices, and the ends.
func TestWhere(t *testing.T) {
	for i, x := range []struct {
		x     api.Tally
		foils []int
	}{
		{chapter(), ints(0, 0, 1, 2, 4)}, {cut(nil, nil), ints(0)}, {cut(nil, ints(1, 2)), ints(0)}, {cut(ints(1, 2), nil), ints(0, 0, 0)}, {cut(ints(1, 2, 3), ints(1, 2, 3)), ints(0, 1, 2, 3)}, {cut(ints(1, 2, 3), ints(2, 3, 4)), ints(0, 0, 1, 2)}, {cut(ints(1, 1), ints(1)), ints(0, 0, 1)}, {cut(ints(1), ints(1, 1)), ints(0, 1)}, {cut(ints(2), ints(1, 1)), ints(0, 1)}, {cut(ints(2), ints(1, 2)), ints(0, 2)}, {cut(ints(4), ints(1, 2, 3, 4)), ints(0, 4)}, {cut(ints(1, 2, 3, 4), ints(4)), ints(0, 0, 0, 0, 1)}, {cut(ints(1, 4), ints(2, 3, 4)), ints(0, 1, 3)},
	} {
		for at, foil := range x.foils {
			if k, e := tally.Where(x.x, at); k != foil || e != api.OK {
				t.Error(i, at, k, e)
			}
		}
	}
}

// P7.7: the chapter's examples, foils that are alike, and none at all.
func TestMatch(t *testing.T) {
	one, two, three := cut(ints(1, 1), ints(3)), cut(ints(3, 3), ints(1)), cut(ints(2), ints(2))
	alike := cut(ints(1, 1), ints(1))
	a, b, c := cut(ints(1, 1, 1), ints(2, 2, 2)), cut(ints(2, 2, 2), ints(3, 3, 3)), cut(ints(3, 3, 3), ints(1, 1, 1))
	for i, x := range []struct {
		l           []api.Tally
		foils, sure []int
		n           int
	}{
		{tallies(chapter(), cut(ints(3, 3), ints(3))), ints(0, 1), ints(0, 1), 3}, {tallies(one, two), ints(1, 0), ints(1, 0), 2}, {nil, nil, nil, 0}, {tallies(chapter()), ints(0), ints(0), 2}, {tallies(cut(nil, nil)), ints(0), ints(0), 0}, {tallies(one, two, three), ints(1, 0, 2), ints(1, 0, 2), 2}, {tallies(three, one, two), ints(0, 2, 1), ints(0, 2, 1), 2},
		{tallies(a, b, c), ints(2, 0, 1), ints(2, 0, 1), 0}, {tallies(c, b, a), ints(1, 2, 0), ints(1, 2, 0), 0}, {tallies(a, b, c, chapter()), ints(2, 0, 1, 3), ints(2, 0, 1, 3), 2},
		// Several matchings are as good: of all stocks, or of some.
		{tallies(alike, alike), ints(0, 1), ints(-1, -1), 2}, {tallies(alike, three, alike), ints(0, 1, 2), ints(-1, 1, -1), 2}, {tallies(c, a, b, c), ints(0, 3, 1, 2), ints(-1, -1, 1, -1), 3}, {slices.Repeat(tallies(chapter()), 6), ints(0, 1, 2, 3, 4, 5), row(6, -1), 12},
		// The first one by itself is not in the best of all.
		{tallies(cut(ints(1), ints(1, 1)), cut(ints(1, 1, 1), ints(1))), ints(1, 0), ints(1, 0), 1}, {tallies(cut(ints(1, 1), ints(1)), cut(ints(1, 1, 1), nil)), ints(0, 1), ints(-1, -1), 4},
	} {
		l, n, e := tally.Match(x.l)
		if !slices.Equal(l, x.foils) || n != x.n || e != api.OK {
			t.Error(i, l, n, e)
		}
		s, f := tally.Sure(x.l)
		if !slices.Equal(s, x.sure) || f != api.OK {
			t.Error(i, s, f)
		}
		checkSort(t, x.l, x.foils)
	}
}

// checkSort checks that the tallies are told with other foils, and all else as it is.
func checkSort(t *testing.T, l []api.Tally, foils []int) {
	t.Helper()
	var want []api.Tally
	for stock, foil := range foils {
		x := l[stock]
		x.Foil = l[foil].Foil
		want = append(want, x)
	}
	if sorted, e := tally.Sort(l); !slices.EqualFunc(sorted, want, same) || e != api.OK {
		t.Error(l, sorted, e)
	}
}
